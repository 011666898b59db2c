/- In seats that hold all of package bits: bits.Ok's contracts are those of the text of checks. -/
import Derived.Test.YthogpmddijbigaaGreatDoorBitsCheck
namespace Go.Proofs.YthogpmddijbigaaGreatDoor
end Go.Proofs.YthogpmddijbigaaGreatDoor
