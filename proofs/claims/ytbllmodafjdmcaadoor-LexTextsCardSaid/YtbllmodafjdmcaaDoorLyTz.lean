/- the walk, and what the row lists -/
import Derived.Test.YtbllmodafjdmcaaDoorLyV
import Derived.Test.YtbllmodafjdmcaaDoorLxZ
