/- Texts joined. -/
import Derived.Test.YtgifcgniphncdaaGreatDoorDe23
import Derived.WalkSmall
import Derived.Deep.RegionHeld3

