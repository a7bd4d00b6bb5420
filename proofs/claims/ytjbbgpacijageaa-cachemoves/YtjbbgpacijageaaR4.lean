/- The document's own functions on desks: alike. -/
import Derived.Test.YtjbbgpacijageaaR3
import Derived.Test.YtjbbgpacijageaaR4a
