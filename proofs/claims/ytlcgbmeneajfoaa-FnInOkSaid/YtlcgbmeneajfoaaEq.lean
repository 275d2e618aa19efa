/- Equality of edges, of lists of edges and of nets, as the laws ask it. -/
import Derived.Test.YtlcgbmeneajfoaaNetOk
import Derived.StillTailTactics
import Derived.Deep.RegionHeld3
import Derived.Deep.QuietTactic
import Derived.BigQuiet
namespace Go.Proofs.Ytlcgbmeneajfoaa
open Go.RowKit
set_option maxRecDepth 100000

theorem take_succ_eq {α : Type} [DecidableEq α] {l m : List α} {k : Nat} (h : k < l.length) (h' : k < m.length) (e : l.take k = m.take k) : (l.take (k + 1) = m.take (k + 1)) ↔ l[k] = m[k] := by
  rw [List.take_succ_eq_append_getElem h, List.take_succ_eq_append_getElem h', e, List.append_cancel_left_eq]; simp

end Go.Proofs.Ytlcgbmeneajfoaa
