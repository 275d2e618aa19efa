/- What the laws' arguments are opened to: a net by value; and what every proof of a row shares. -/
import Derived.Test.YtdacfeebidhgnaaEd
import Derived.Test.YtdacfeebidhgnaaRows
import Derived.ProofKit
import Derived.OpenShut
import Derived.ShutString
import Derived.ChangeOld
import Derived.Carry
import Derived.Deep.Slices
import Derived.ChangeSame
import Derived.Lib.SmallJoins
namespace Go.Proofs.Ytdacfeebidhgnaa
open Go.ChangeShapes Go.WideShapes Go.ChangeAt Go.RowKit Go.Deep Go.Joins
set_option linter.unusedVariables false

set_option maxRecDepth 100000

theorem own : ownKnob Try.prog.godebug = none := by kernel_rfl
theorem laidOut : laidOutB Try.prog = true := by kernel_rfl

theorem list_of {α : Type} {P : Nat → α → Prop} : ∀ n : Nat, (∀ i, i < n → ∃ e, P i e) → ∃ es : List α, es.length = n ∧ ∀ k e, es[k]? = some e → P k e
  | 0, _ => ⟨[], rfl, fun k e h => by simp at h⟩
  | n + 1, h => by
    obtain ⟨es, hl, hes⟩ := list_of n fun i hi => h i (by omega)
    obtain ⟨e, he⟩ := h n (by omega)
    refine ⟨es ++ [e], by simp [hl], fun k e' hk => ?_⟩
    rw [List.getElem?_append] at hk
    split at hk
    · exact hes k e' hk
    · next hge =>
      have : k = n := by
        have hk' := (List.getElem?_eq_some_iff.1 hk).1
        simp at hk'
        omega
      subst this
      simp [hl] at hk
      subst hk
      exact he

theorem open_net {H : Type} {enc : TypeId × Value → H} {w : World} {base : Nat} {r : Reach} {b0 : Nat} {v : Value} {d : DataW H} {p : List MemPlace}
    (hv : Value.okWide Try.prog w r b0 24 v) (h : DataW.Trod enc Try.prog w base (fun _ => true) true 24 v d p) :
    ∃ (n : Int) (A : Option Addr) (cap : Nat) (es : List (Int × Int)), v = .agg #[.int .i64 n, .slice A es.length cap] ∧ EdgesIn w w.heap.size A es ∧ es.length ≤ maxLen ∧ (Lit.int .i64 n).wf = true := by
  obtain ⟨v0, v1, y0, y1, m, rfl, _, _, h0, h1⟩ := open_agg2 Try.underlying24 (by kernel_rfl) (by kernel_rfl) hv h
  obtain ⟨n, e0, _, wf⟩ := DataW.trod_int Try.underlying3 h0
  injection e0 with e0
  subst e0
  rcases open_slice Try.underlying22 h1 with ⟨hcs, _⟩ | ⟨a, len, cap, m', k', D, Pl, hcs, _, hl, hm, hm', _, hi⟩
  · injection hcs with hcs
    subst hcs
    exact ⟨n, none, 0, [], rfl, EdgesIn.nil, by simp [maxLen], wf⟩
  · injection hcs with hcs
    subst hcs
    obtain ⟨b, off, spot⟩ := a
    have two : Try.prog.cellsOf 98 = 2 := by kernel_rfl
    have one : Try.prog.cellsOf 3 = 1 := by kernel_rfl
    have each : ∀ i, i < len → ∃ x0 x1 : Int, w.cell? ((⟨b, off, spot⟩ : Addr).add (i * 2)) = some (.int .i64 x0) ∧ w.cell? (((⟨b, off, spot⟩ : Addr).add (i * 2)).add 1) = some (.int .i64 x1) := by
      intro i hil
      obtain ⟨cs, hc, ht⟩ := hi i (by simp at hm'; omega)
      rw [two] at hc
      obtain ⟨_, hlen, hat⟩ := World.cells?_some hc
      obtain ⟨z0, z1, _, _, _, g0, g1⟩ := trod_struct2 Try.underlying98 ht
      match cs, hlen with
      | [u0, u1], _ =>
        obtain ⟨x0, e0, _, _⟩ := DataW.trod_int Try.underlying3 g0
        obtain ⟨x1, e1, _, _⟩ := DataW.trod_int Try.underlying3 g1
        have e0' : u0 = .int .i64 x0 := by simpa [one] using e0
        have e1' : u1 = .int .i64 x1 := by simpa [one] using e1
        refine ⟨x0, x1, ?_, ?_⟩
        · have := hat 0 (by omega); rw [← e0']; simpa [Addr.add] using this
        · have := hat 1 (by omega); rw [← e1']; simpa using this
    obtain ⟨es, hel, hes⟩ := list_of (P := fun i (e : Int × Int) => ∃ b' off', (some (⟨b, off, spot⟩ : Addr)) = some ⟨b', off', none⟩ ∧ b' < w.heap.size ∧
        w.cell? ⟨b', off' + i * 2, none⟩ = some (.int .i64 e.1) ∧ w.cell? ⟨b', off' + i * 2 + 1, none⟩ = some (.int .i64 e.2)) len (fun i hil => by
      have hs : spot = none := by
        obtain ⟨_, _, q, _⟩ := each 0 (by omega)
        have := World.cell?_spot q
        simpa [Addr.add] using this
      subst hs
      obtain ⟨x0, x1, q0, q1⟩ := each i hil
      rw [add_plain, add_plain] at q1
      rw [add_plain] at q0
      exact ⟨(x0, x1), b, off, rfl, World.block_lt_of_cell? w _ q0, q0, q1⟩)
    exact ⟨n, some ⟨b, off, spot⟩, cap, es, by rw [hel], hes, by omega, wf⟩
end Go.Proofs.Ytdacfeebidhgnaa
