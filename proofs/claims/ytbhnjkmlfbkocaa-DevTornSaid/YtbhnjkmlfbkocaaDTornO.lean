/- DevTorn's walk and what opens its arguments -/
import Derived.Test.YtbhnjkmlfbkocaaDTorn
import Derived.Test.YtbhnjkmlfbkocaaDevO
