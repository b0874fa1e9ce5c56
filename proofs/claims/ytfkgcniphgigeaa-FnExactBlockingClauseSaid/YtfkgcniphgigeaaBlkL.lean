/- Both sides' BlockingClause, together (no claim of its own). Conditions: none. -/
import Derived.Test.YtfkgcniphgigeaaBlkI
import Derived.Test.YtfkgcniphgigeaaBlkS
import Derived.Test.YtfkgcniphgigeaaBolR
