/- Texts joined. -/
import Derived.Test.YtgifcgniphncdaaGreatDoorNa23
import Derived.WalkSmall
import Derived.Deep.RegionHeld3

