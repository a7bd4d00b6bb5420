/- The document's own functions on desks: alike. -/
import Derived.Test.YtjbbgpacijageabGreatR3
import Derived.Test.YtjbbgpacijageabGreatR4a
