/- Families of the reference: l8In, FamilyOk. -/
import Derived.Test.YtlcgbmeneajfoaaFamP
import Derived.Test.YtlcgbmeneajfoaaObj
import Derived.Test.YtlcgbmeneajfoaaBits7
import Derived.BigQuiet
import Derived.BigRegion
namespace Go.Proofs.Ytlcgbmeneajfoaa
open Go.RowKit
set_option maxRecDepth 100000

/-- A law's own family in a box of the call's, in a later world. -/
structure ArgFam (w u : World) (bx : Nat) (t : Int) (A : Option Addr) (c : Nat) (xs : List Int) : Prop where
  c0 : u.cell? ⟨bx, 0, none⟩ = some (.int .i64 t)
  c1 : u.cell? ⟨bx, 1, none⟩ = some (.slice A xs.length c)
  row : IntsIn u w.heap.size A xs
  below : Below w.heap.size w u
  ge : w.heap.size ≤ bx
  lt : bx < u.heap.size
section
variable {w u u' : World} {bx : Nat} {t : Int} {A : Option Addr} {c : Nat} {xs : List Int}
theorem ArgFam.start (ty : TypeId) (h : IntsIn w w.heap.size A xs) : ArgFam w (w.alloc (.cells #[.int .i64 t, .slice A xs.length c] ty)) w.heap.size t A c xs :=
  ⟨by rw [World.cell?_alloc_at _ _ _ _ rfl]; rfl, by rw [World.cell?_alloc_at _ _ _ _ rfl]; rfl, h.alloc (Nat.le_refl _) _, (Below.refl _ _).alloc (Nat.le_refl _) _, Nat.le_refl _, by simp⟩
theorem ArgFam.step {B : Nat} (h : ArgFam w u bx t A c xs) (hb : Below B u u') (hB : bx < B) : ArgFam w u' bx t A c xs :=
  ⟨(hb.cell (p := ⟨bx, 0, none⟩) hB).trans h.c0, (hb.cell (p := ⟨bx, 1, none⟩) hB).trans h.c1, h.row.below hb (by have := h.ge; omega), h.below.trans (hb.mono (by have := h.ge; omega)), h.ge, Nat.lt_of_lt_of_le h.lt hb.size⟩
theorem ArgFam.next (h : ArgFam w u bx t A c xs) (hb : Below u.heap.size u u') : ArgFam w u' bx t A c xs := h.step hb h.lt
theorem ArgFam.drewN (h : ArgFam w u bx t A c xs) (k : Nat) : ArgFam w (u.drewN k) bx t A c xs := h.next (belowN (Below.refl _ _) k)
theorem ArgFam.ints (h : ArgFam w u bx t A c xs) : IntsIn u u.heap.size A xs := h.row.more h.below.size
end

theorem famB_take_succ {ns : List Nat} {k s : Nat} (hk : k < ns.length) : famB (ns.take (k + 1)) s = (famB (ns.take k) s || decide (ns.getD k 0 &&& s = ns.getD k 0)) := by
  have : ns.take (k + 1) = ns.take k ++ [ns.getD k 0] := by rw [List.take_add_one]; simp [List.getD, hk]
  rw [this]; simp [famB, List.any_append]

theorem famB_take_mono {ns : List Nat} {s : Nat} (k : Nat) (h : famB (ns.take k) s = true) : famB (ns.take ns.length) s = true := by
  rw [List.take_length]
  simp only [famB, List.any_eq_true] at h ⊢
  obtain ⟨x, hx, h⟩ := h
  exact ⟨x, List.mem_of_mem_take hx, h⟩

set_option maxHeartbeats 2000000 in
theorem l8In_any (t : Int) (A : Option Addr) (cap : Nat) (ns : List Nat) (s : Nat) (w : World) (hin : IntsIn w w.heap.size A (natI ns)) (hl : ns.length ≤ 1048576) (hns : ∀ x ∈ ns, x ≤ 8192) (hs : s ≤ 8192) :
    Calls Try.prog 49 #[.agg #[.int .i64 t, .slice A ns.length cap], .int .i64 s] w fun e w' => e = .returned (.bool (famB ns s)) ∧ Below w.heap.size w w' := by
  have L0 := ArgFam.start (t := t) (c := cap) 27 hin
  rw [natI_length] at L0
  obtain ⟨n, hn⟩ : ∃ n, ns.length = n := ⟨_, rfl⟩
  have HN := Lib.hid hn
  have HNS := Lib.hid hns
  have HV : Hid (famB (ns.take n) s = famB ns s) := by rw [Hid, ← hn, List.take_length]
  rw [hn] at L0 hl ⊢
  generalize famB ns s = v at *
  clear hn hns hin
  obtain ⟨c0, c1, _, _, _, _⟩ := id L0
  go_enter Try.func49, Try.ntmps49
  go_wp2_with fail
  go_loopw [5] (fun k wr => ∃ K : Nat, K ≤ n ∧ k = .int .i64 (K : Nat) ∧ famB (ns.take K) s = false ∧ ArgFam w wr w.heap.size t A cap (natI ns)) (fun k _ => n - (intOf k).toNat)
  case atStart => exact ⟨0, by omega, rfl, by simp [famB], L0⟩
  case round =>
    obtain ⟨K, hK, rfl, hf, L⟩ := hrel
    obtain ⟨c0, c1, row, _, _, _⟩ := id L
    rw [natI_length, HN.out] at c1
    by_cases hlt : K < n
    · have hS := famB_take_succ (s := s) (show K < ns.length by rw [HN.out]; exact hlt)
      have hx : ns.getD K 0 ≤ 8192 := HNS.out _ (by rw [List.getD_eq_getElem?_getD, List.getElem?_eq_getElem (show K < ns.length by rw [HN.out]; exact hlt)]; simp)
      obtain ⟨b, off, rfl, _, hc⟩ := row K (ns.getD K 0 : Nat) (by rw [natI, List.getElem?_map, List.getD_eq_getElem?_getD, List.getElem?_eq_getElem (show K < ns.length by rw [HN.out]; exact hlt)]; simp)
      generalize ns.getD K 0 = x at *
      rw [hf, Bool.false_or] at hS
      have ha := and_small hx hs
      have HF := Lib.hid hf
      have HS := Lib.hid hS
      have HL := Lib.hid L
      clear hf hS row L L0
      have ij : (K : Int) < (n : Int) := by omega
      by_cases hxe : x &&& s = x
      · rw [hxe] at ha
        have HR : Hid (v = true) := by
          have h1 := HS.out
          rw [decide_eq_true hxe] at h1
          rw [Hid, ← HV.out]
          have h2 := famB_take_mono (K + 1) h1
          rw [HN.out] at h2
          exact h2
        clear hxe
        go_wp2_with fail
        go_quiet (fail)
        go_wp2_with fail
        go_returns
        exact ⟨retB HR.out.symm, belowN HL.out.below _⟩
      · have hS2 := HS.out
        rw [decide_eq_false hxe] at hS2
        have HS2 := Lib.hid hS2
        clear hS2
        generalize x &&& s = z at *
        have hz1 : ((z : Int) = (x : Int)) = False := eq_false (by omega)
        have hz2 : ((x : Int) = (z : Int)) = False := eq_false (by omega)
        have hz3 : ((z : Int) == (x : Int)) = false := by simp; omega
        go_wp2_with fail
        go_quiet (fail)
        go_wp2_with fail
        go_roundw
        case rel => exact ⟨K + 1, by omega, by go_num, HS2.out, HL.out.drewN _⟩
        case measure => simp [intOf]; omega
    · obtain rfl : K = n := by omega
      go_wp2_with fail
      go_returns
      exact ⟨retB (by rw [← HV.out, hf]), L.below⟩
end Go.Proofs.Ytlcgbmeneajfoaa
