
import Derived.Test.YtcpklnekpdhlmaaB5s
set_option linter.unusedVariables false
set_option linter.unusedSimpArgs false
