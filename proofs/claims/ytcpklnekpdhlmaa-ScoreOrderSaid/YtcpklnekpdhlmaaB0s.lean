
/- (In other seats: each function's code is of the form that the machine knows.) -/
import Derived.Test.YtcpklnekpdhlmaaX4
import Derived.Test.YtcpklnekpdhlmaaA7s
set_option linter.unusedVariables false
set_option linter.unusedSimpArgs false
