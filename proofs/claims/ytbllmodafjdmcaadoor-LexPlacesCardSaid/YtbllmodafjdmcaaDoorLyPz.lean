/- the walk, and what the row lists -/
import Derived.Test.YtbllmodafjdmcaaDoorLyP
import Derived.Test.YtbllmodafjdmcaaDoorLxZ
