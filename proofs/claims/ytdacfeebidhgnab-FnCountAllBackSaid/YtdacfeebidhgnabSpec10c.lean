/- Chapter 10 of the reference: arrows that lead back. -/
import Derived.Test.YtdacfeebidhgnabTutte
import Derived.Test.YtdacfeebidhgnabSpec10a
import Derived.Test.YtdacfeebidhgnabTruth
import Derived.Test.YtdacfeebidhgnabBits7
namespace Go.Proofs.Ytdacfeebidhgnab
open Go.RowKit
set_option maxRecDepth 100000

theorem OwnT.set {u : World} {base g n c : Nat} {G : Nat → Bool} (h : OwnT u base g n c G) (k : Nat) (v : Bool) : OwnT (u.setCell ⟨g, k, none⟩ (.bool v)) base g n c (setG G k v) := (h.store k v).congr fun _ _ => rfl
theorem endsL_at {es : List (Int × Int)} {k : Nat} {e : Int × Int} (h : es[k]? = some e) : (endsL es)[k]? = some (endN e) := by unfold endsL; rw [List.getElem?_map, h]; rfl
theorem bit_div (s k : Nat) : ((s : Int) / 2 ^ k).tmod 2 = if s.testBit k = true then 1 else 0 := bit_tmod s k
theorem inG_last {l : List (Nat × Nat)} {T G : Nat → Bool} {j k : Nat} (h : k = l.length) : inG l T G j k = inG l T G j l.length := by rw [h]

theorem comes_set {l : List (Nat × Nat)} {T G : Nat → Bool} {r m j : Nat} (hI : InvG l T G) (hC : r + 1 ≤ cntG G m ∨ StabG l T G (m + 1) ∨ (r ≤ cntG G m ∧ StabG l T G j)) (h1 : 1 ≤ j) (h2 : j ≤ m) (hin : inG l T G j l.length = false) :
    InvG l T (setG G j true) ∧ (r + 1 ≤ cntG (setG G j true) m ∨ StabG l T (setG G j true) (m + 1) ∨ (r ≤ cntG (setG G j true) m ∧ StabG l T (setG G j true) (j + 1))) := by
  cases h0 : G j with
  | true =>
    have e : setG G j true = G := by
      funext i; unfold setG; split
      · rename_i hi; rw [hi, h0]
      · rfl
    rw [e]
    refine ⟨hI, ?_⟩
    rcases hC with h | h | h
    · exact .inl h
    · exact .inr (.inl h)
    · exact .inr (.inr ⟨h.1, h.2.set (.inl h0)⟩)
  | false =>
    refine ⟨hI.set h0 hin, .inl ?_⟩
    rw [cntG_set h1 h0 m h2]
    rcases hC with h | h | h
    · omega
    · rw [h j h1 (by omega) h0] at hin; cases hin
    · omega

noncomputable def noBackQ (es : List (Int × Int)) (s : Nat) : Bool := !backV (endsL es) s
noncomputable def noBackI (n : Int) (es : List (Int × Int)) : Int := if netOkB n es = true then ((cP (noBackQ es) (2 ^ es.length) : Nat) : Int) else -1
theorem noBackI_ok {n : Int} {es : List (Int × Int)} (h : netOkB n es = true) : noBackI n es = ((acyN (fun x => x) (endsL es) : Nat) : Int) := by
  unfold noBackI
  rw [if_pos h, acy_states, endsL_length]; rfl

end Go.Proofs.Ytdacfeebidhgnab
