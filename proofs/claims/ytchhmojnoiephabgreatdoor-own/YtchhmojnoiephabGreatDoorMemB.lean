import Derived.Test.YtchhmojnoiephabGreatDoorWalkD
import Derived.Test.YtchhmojnoiephabGreatDoorFrA
import Derived.Test.YtchhmojnoiephabGreatDoorTabI
import Derived.Deep.QuietTactic
import Derived.BigQuiet
import Derived.Deep.DeepCutAuto
import Derived.Deep.CutBlock
import Derived.WalkLawsBesides
import Derived.Laws.Rows
import Derived.Deep.RegionWith
import Derived.Lib.SlicesS
/- In a seat that has the document's functions: rows and frames come from FrA and TabI. -/
