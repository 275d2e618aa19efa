/- BothOf of the reference; ChoicesOf of the program and of the reference. -/
import Derived.Test.YtaplmlbpleilfaaTog
namespace Go.Proofs.Ytaplmlbpleilfaa
open Go.RowKit
set_option maxRecDepth 100000

theorem OwnI.empty (w : World) {base : Nat} (hb : base ≤ w.heap.size) : OwnI (w.alloc (.cells #[] 3)) base (.slice (some ⟨w.heap.size, 0, none⟩) 0 0) [] :=
  OwnI.box w [] hb (by simp)

end Go.Proofs.Ytaplmlbpleilfaa
