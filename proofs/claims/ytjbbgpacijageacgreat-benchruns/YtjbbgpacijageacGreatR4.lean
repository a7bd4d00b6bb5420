/- The document's own functions on desks: alike. -/
import Derived.Test.YtjbbgpacijageacGreatUJ
import Derived.Test.YtjbbgpacijageacGreatR4a
