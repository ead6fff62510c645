/- Texts joined. -/
import Derived.Test.YtgifcgniphncdaaGreatDoorNa6
import Derived.Deep.RegionHeld3

