/- the walk, and what the row lists -/
import Derived.Test.YtnehbpfgdeilhaaGreatDoorPbP
import Derived.Test.YtnehbpfgdeilhaaGreatDoorPbZ
