/- Texts joined. -/
import Derived.Test.YtgifcgniphncdaaGreatDoorPk6
import Derived.Deep.RegionHeld3

