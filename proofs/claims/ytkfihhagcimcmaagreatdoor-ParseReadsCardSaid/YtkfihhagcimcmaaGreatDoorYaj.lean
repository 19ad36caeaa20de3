/- Tj -/
import Derived.Test.YtkfihhagcimcmaaGreatDoorChecked
import Derived.Test.YtkfihhagcimcmaaGreatDoorY0
import Derived.Test.YtkfihhagcimcmaaGreatDoorYad
namespace Go.Proofs.YtkfihhagcimcmaaGreatDoor
open Go.RowKit
theorem ks0 (I:Hd→Ex→Prop) (w:World):InKs I w none 0 []:=⟨rfl,by omega,fun i h=>absurd h (by simp)⟩
end Go.Proofs.YtkfihhagcimcmaaGreatDoor
