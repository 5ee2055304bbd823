/- the walk, and what the row lists -/
import Derived.Test.YtbllmodafjdmcaaDoorLyN
import Derived.Test.YtbllmodafjdmcaaDoorLxZ
