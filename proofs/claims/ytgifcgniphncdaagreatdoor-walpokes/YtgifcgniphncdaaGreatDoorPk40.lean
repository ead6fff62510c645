/- Texts joined. -/
import Derived.Test.YtgifcgniphncdaaGreatDoorPk38
import Derived.Test.YtgifcgniphncdaaGreatDoorShelf8
import Derived.Sort.OwnSortedInts
import Derived.Shelf.SortM.Plain
import Derived.Shelf.SortM.SortNone

