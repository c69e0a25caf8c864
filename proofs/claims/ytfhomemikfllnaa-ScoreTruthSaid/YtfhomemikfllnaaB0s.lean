
/- (In other seats: each function's code is of the form that the machine knows.) -/
import Derived.Test.YtfhomemikfllnaaX4
import Derived.Test.YtfhomemikfllnaaA7s
set_option linter.unusedVariables false
set_option linter.unusedSimpArgs false
