/- Texts joined. -/
import Derived.Test.YtgifcgniphncdaaGreatDoorPk23
import Derived.WalkSmall
import Derived.Deep.RegionHeld3

