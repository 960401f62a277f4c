/-
  Lists of numbers of the call's own lie with the reader's texts at this seat. By the verifier.
-/
import Derived.Test.YtddjflaceokoaaaDoorRdSpec
import Derived.Test.YtddjflaceokoaaaDoorFrBox
