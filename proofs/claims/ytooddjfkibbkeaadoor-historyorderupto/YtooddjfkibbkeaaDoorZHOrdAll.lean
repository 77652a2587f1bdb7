/- HistoryOrder's walk and its heads. -/
import Derived.Test.YtooddjfkibbkeaaDoorZHOrdWalk
import Derived.Test.YtooddjfkibbkeaaDoorZHHeads
