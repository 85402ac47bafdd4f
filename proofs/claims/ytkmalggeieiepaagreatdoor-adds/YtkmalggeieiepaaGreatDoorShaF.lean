import Derived.Test.YtkmalggeieiepaaGreatDoorTxtA
import Derived.WalkKit
import Derived.WalkSpells
import Derived.WalkLawsBesides
import Derived.Deep.MidRow
import Derived.Deep.DeepCutAuto
namespace Go.Proofs.YtkmalggeieiepaaGreatDoor
open Go.RowKit

end Go.Proofs.YtkmalggeieiepaaGreatDoor
