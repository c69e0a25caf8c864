
import Derived.Test.YtcpklnekpdhlmaaW2
set_option linter.unusedVariables false
set_option linter.unusedSimpArgs false
