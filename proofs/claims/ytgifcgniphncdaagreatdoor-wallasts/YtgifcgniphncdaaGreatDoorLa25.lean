/- Texts joined. -/
import Derived.Test.YtgifcgniphncdaaGreatDoorLa23
import Derived.WalkSmall
import Derived.Deep.RegionHeld3

