/- the walk, and what the row lists -/
import Derived.Test.YtbllmodafjdmcaaDoorLyI
import Derived.Test.YtbllmodafjdmcaaDoorLxZ
