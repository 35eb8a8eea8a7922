/- All that the frames want. -/
import Derived.Test.YtnkbfpmaifgenaaHF
import Derived.Test.YtnkbfpmaifgenaaEH
import Derived.Test.YtnkbfpmaifgenaaEI
