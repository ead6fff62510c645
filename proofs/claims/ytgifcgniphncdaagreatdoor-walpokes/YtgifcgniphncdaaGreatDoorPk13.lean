/- Texts joined. -/
import Derived.Test.YtgifcgniphncdaaGreatDoorPk12
import Derived.Deep.RegionLaw
import Derived.Deep.AppendLies
import Derived.BigQuiet
import Derived.Maps.AppendAt

