/- Both sides' BlockingClause, together (no claim of its own). Conditions: none. -/
import Derived.Test.YtaghnjkpanjioaaBlkI
import Derived.Test.YtaghnjkpanjioaaBlkS
import Derived.Test.YtaghnjkpanjioaaBolR
