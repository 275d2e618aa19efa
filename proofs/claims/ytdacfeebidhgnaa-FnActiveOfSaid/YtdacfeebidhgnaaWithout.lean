/- WithoutEdge of the program. -/
import Derived.Test.YtdacfeebidhgnaaConcat
import Derived.Test.YtdacfeebidhgnaaEdgesAt
import Derived.Deep.RegionHeld3
import Derived.Deep.RegionLaw
namespace Go.Proofs.Ytdacfeebidhgnaa
open Go.RowKit
set_option maxRecDepth 100000

def wN (n : Int) (es : List (Int × Int)) (a : Int) : Int := if atOkB n es a = true then n else 0
def wE (n : Int) (es : List (Int × Int)) (a : Int) : List (Int × Int) := if atOkB n es a = true then es.take a.toNat ++ es.drop (a.toNat + 1) else []

/-- A net and a truth come back; the net's edges are new. -/
def MadeNetB (w : World) (n : Int) (es : List (Int × Int)) (b : Bool) (e : Ending) (w' : World) : Prop :=
  ∃ A c, e = .returned (.tuple #[.agg #[.int .i64 n, .slice A es.length c], .bool b]) ∧ OwnE w' w.heap.size (.slice A es.length c) es ∧ Below w.heap.size w w'

set_option maxHeartbeats 1000000 in
theorem withoutEdge_any (n a : Int) (A : Option Addr) (cap : Nat) (es : List (Int × Int)) (w : World) (hes : EdgesIn w w.heap.size A es) (hl : es.length ≤ 1048576) (hc : es.length ≤ cap) :
    Calls Try.prog 39 #[.agg #[.int .i64 n, .slice A es.length cap], .int .i64 a] w (MadeNetB w (wN n es a) (wE n es a) (atOkB n es a)) := by
  have hes' := (boxE (boxE hes #[.int .i64 n, .slice A es.length cap] 29) #[.int .i64 0, .slice none 0 0] 29)
  by_cases hok : atOkB n es a = true
  · have hh := hok
    simp only [atOkB, Bool.and_eq_true, decide_eq_true_eq] at hh
    obtain ⟨hn, ha0, ha1⟩ := hh
    have h9 := (netOkB_iff.1 hn).2.1
    obtain ⟨k, rfl⟩ : ∃ k : Nat, a = k := ⟨a.toNat, by omega⟩
    have hk : k < es.length := by omega
    obtain ⟨b, off, rfl, hbb, _, _⟩ := hes k _ (List.getElem?_eq_getElem hk)
    have hwN : Hid (wN n es k = n) := by simp [Hid, wN, hok]
    have hwE : Hid (wE n es k = es.take k ++ es.drop (k + 1)) := by simp [Hid, wE, hok]
    have HOK := Lib.hid hok
    have L0 := ArgNet.start (cap := cap) (n := n) 29 hes
    clear hok hn ha0 ha1 hes
    by_cases hcap : cap = k + 1
    · subst hcap
      go_enter Try.func39, Try.ntmps39
      go_wp2_with fail
      refine (edgeAtOk_any _ _ _ _ _ _ hes' hl).mono ?_
      rintro e1 w1 ⟨rfl, hb1⟩
      rw [HOK.out]
      have L1 := (L0.step ((Below.refl _ _).alloc (Nat.le_refl _) (.cells #[.int .i64 0, .slice none 0 0] 29)) L0.lt).step hb1 (by simp; omega)
      have r0 : w1.cell? ⟨w.heap.size + 1, 0, none⟩ = some (.int .i64 0) := by
        rw [hb1.cell (p := ⟨w.heap.size + 1, 0, none⟩) (by simp), World.cell?_alloc_at _ _ _ _ (by simp)]; rfl
      have r1 : w1.cell? ⟨w.heap.size + 1, 1, none⟩ = some (.slice none 0 0) := by
        rw [hb1.cell (p := ⟨w.heap.size + 1, 1, none⟩) (by simp), World.cell?_alloc_at _ _ _ _ (by simp)]; rfl
      have g0 : w1.frozen? ⟨w.heap.size + 1, 0, none⟩ = false := (hb1.frozen (p := ⟨w.heap.size + 1, 0, none⟩) (by simp)).trans (World.frozen?_alloc_at _ _ _ _ (by simp))
      have g1 : w1.frozen? ⟨w.heap.size + 1, 1, none⟩ = false := (hb1.frozen (p := ⟨w.heap.size + 1, 1, none⟩) (by simp)).trans (World.frozen?_alloc_at _ _ _ _ (by simp))
      have s2 : w.heap.size + 1 < w1.heap.size := by have := hb1.size; simp only [World.size_alloc] at this; omega
      obtain ⟨_, _, c0, c1, s1⟩ := id L1
      have C1 : CellsAt w1 w1.heap.size ⟨b, off, none⟩ (es.take k) := by have := CellsAt.of L1.at_ hbb 0 k; simp at this; exact ⟨by show b < _; omega, this.2⟩
      have C2 : CellsAt w1 w1.heap.size ⟨b, off, none⟩ (es.drop (k + 1)) := by
        rw [List.drop_eq_nil_of_le (by omega)]; exact ⟨by show b < _; omega, fun j u hu => by simp [flat] at hu⟩
      clear hes' hb1 L0
      obtain ⟨V, hV⟩ : ∃ V, V = (w1.alloc (.cells #[.slice (some ⟨b, off, none⟩) k (k + 1), .slice (some ⟨b, off, none⟩) 0 0] 27)).drew := ⟨_, rfl⟩
      have hv1 : V.cell? ⟨w1.heap.size, 0, none⟩ = some (.slice (some ⟨b, off, none⟩) k (k + 1)) := by rw [hV]; show (w1.alloc _).cell? _ = _; rw [World.cell?_alloc_at _ _ _ _ rfl]; rfl
      have hv2 : V.cell? ⟨w1.heap.size, 1, none⟩ = some (.slice (some ⟨b, off, none⟩) 0 0) := by rw [hV]; show (w1.alloc _).cell? _ = _; rw [World.cell?_alloc_at _ _ _ _ rfl]; rfl
      have hVb : Below w1.heap.size w1 V := by rw [hV]; exact ((Below.refl _ _).alloc (Nat.le_refl _) _).drew
      have hVs : V.heap.size = w1.heap.size + 1 := by rw [hV]; simp
      have D1 : CellsAt V V.heap.size ⟨b, off, none⟩ (es.take k) := ⟨by have := C1.1; omega, (C1.below hVb (Nat.le_refl _)).2⟩
      have D2 : CellsAt V V.heap.size ⟨b, off, none⟩ (es.drop (k + 1)) := ⟨by have := C2.1; omega, (C2.below hVb (Nat.le_refl _)).2⟩
      have HV := Lib.hid hV
      clear hV C1 C2
      have b0 : (0 : Int) ≤ (k : Int) + 1 := by omega
      have b1 : (k : Int) ≤ ((k : Int) + 1) := by omega
      have b2 : (k : Int) + 1 ≤ (es.length : Int) := by omega
      have b3 : (es.length : Int) ≤ ((k : Int) + 1) := by omega
      have wk : IntKind.i64.wrap ((k : Int) + 1) = (k : Int) + 1 := IntWalk.i64_in _ (by omega)
      have hne : w.heap.size + 1 ≠ w.heap.size := by omega
      go_wp2_with fail
      go_region_held3 (fun w' => w'.cell? ⟨w.heap.size, 0, none⟩ = some (.int .i64 n) ∧ w'.cell? ⟨w.heap.size, 1, none⟩ = some (.slice (some ⟨b, off, none⟩) es.length (k + 1))) (first | go_keep)
        (first
          | (rw [← HV.out]; go_at_call 98; refine (concat_any _ _ _ _ _ _ _ (es.take k) (es.drop (k + 1)) _ hv1 hv2 D1 D2 (by simp; omega) (by simp; omega) (by omega)).mono ?_; rintro e5 w5 ⟨A5, c5, rfl, own5, hb5⟩
             have L5 := (L1.step hVb s1).step hb5 (by omega)
             have z0 := L5.c0
             have z1 := L5.c1
             have q0 := (hb5.cell (p := ⟨w.heap.size + 1, 0, none⟩) (by simp; omega)).trans ((hVb.cell (p := ⟨w.heap.size + 1, 0, none⟩) s2).trans r0)
             have q1 := (hb5.cell (p := ⟨w.heap.size + 1, 1, none⟩) (by simp; omega)).trans ((hVb.cell (p := ⟨w.heap.size + 1, 1, none⟩) s2).trans r1)
             have q2 := (hb5.frozen (p := ⟨w.heap.size + 1, 0, none⟩) (by simp; omega)).trans ((hVb.frozen (p := ⟨w.heap.size + 1, 0, none⟩) s2).trans g0)
             have q3 := (hb5.frozen (p := ⟨w.heap.size + 1, 1, none⟩) (by simp; omega)).trans ((hVb.frozen (p := ⟨w.heap.size + 1, 1, none⟩) s2).trans g1)))
      all_goals
        go_wp2_with fail
        refine bodyPost_ret (v := .tuple #[.agg #[.int .i64 n, .slice A5 (es.take k ++ es.drop (k + 1)).length c5], .bool true]) (by simp [results, Try.results39, go_sem, *]) rfl ?_
        rw [hwN.out, hwE.out, HOK.out]
        have hg5 : ∀ j, (Value.slice A5 (es.take k ++ es.drop (k + 1)).length c5).ownBlock = some j → V.heap.size ≤ j := fun j hj => (World.ownsRow.lt own5 j hj).1
        refine ⟨A5, c5, rfl, ((own5.more (by omega)).far (fun j hj => by have := hg5 j hj; simp; omega) _).far (fun j hj => by have := hg5 j hj; simp; omega) _, (L5.below.setCell (by simp) _).setCell (by simp) _⟩
    · go_enter Try.func39, Try.ntmps39
      go_wp2_with fail
      refine (edgeAtOk_any _ _ _ _ _ _ hes' hl).mono ?_
      rintro e1 w1 ⟨rfl, hb1⟩
      rw [HOK.out]
      have L1 := (L0.step ((Below.refl _ _).alloc (Nat.le_refl _) (.cells #[.int .i64 0, .slice none 0 0] 29)) L0.lt).step hb1 (by simp; omega)
      have r0 : w1.cell? ⟨w.heap.size + 1, 0, none⟩ = some (.int .i64 0) := by
        rw [hb1.cell (p := ⟨w.heap.size + 1, 0, none⟩) (by simp), World.cell?_alloc_at _ _ _ _ (by simp)]; rfl
      have r1 : w1.cell? ⟨w.heap.size + 1, 1, none⟩ = some (.slice none 0 0) := by
        rw [hb1.cell (p := ⟨w.heap.size + 1, 1, none⟩) (by simp), World.cell?_alloc_at _ _ _ _ (by simp)]; rfl
      have g0 : w1.frozen? ⟨w.heap.size + 1, 0, none⟩ = false := (hb1.frozen (p := ⟨w.heap.size + 1, 0, none⟩) (by simp)).trans (World.frozen?_alloc_at _ _ _ _ (by simp))
      have g1 : w1.frozen? ⟨w.heap.size + 1, 1, none⟩ = false := (hb1.frozen (p := ⟨w.heap.size + 1, 1, none⟩) (by simp)).trans (World.frozen?_alloc_at _ _ _ _ (by simp))
      have s2 : w.heap.size + 1 < w1.heap.size := by have := hb1.size; simp only [World.size_alloc] at this; omega
      obtain ⟨_, _, c0, c1, s1⟩ := id L1
      have C1 : CellsAt w1 w1.heap.size ⟨b, off, none⟩ (es.take k) := by have := CellsAt.of L1.at_ hbb 0 k; simp at this; exact ⟨by show b < _; omega, this.2⟩
      have C2 : CellsAt w1 w1.heap.size ⟨b, off + (k + 1) * 2, none⟩ (es.drop (k + 1)) := by
        have := CellsAt.of L1.at_ hbb (k + 1) es.length; rw [List.take_of_length_le (by simp)] at this; exact ⟨by show b < _; omega, this.2⟩
      clear hes' hb1 L0
      obtain ⟨V, hV⟩ : ∃ V, V = (w1.alloc (.cells #[.slice (some ⟨b, off, none⟩) k cap, .slice (some ⟨b, off + (k + 1) * 2, none⟩) (es.length - (k + 1)) (cap - (k + 1))] 27)).drew := ⟨_, rfl⟩
      have hv1 : V.cell? ⟨w1.heap.size, 0, none⟩ = some (.slice (some ⟨b, off, none⟩) k cap) := by rw [hV]; show (w1.alloc _).cell? _ = _; rw [World.cell?_alloc_at _ _ _ _ rfl]; rfl
      have hv2 : V.cell? ⟨w1.heap.size, 1, none⟩ = some (.slice (some ⟨b, off + (k + 1) * 2, none⟩) (es.length - (k + 1)) (cap - (k + 1))) := by rw [hV]; show (w1.alloc _).cell? _ = _; rw [World.cell?_alloc_at _ _ _ _ rfl]; rfl
      have hVb : Below w1.heap.size w1 V := by rw [hV]; exact ((Below.refl _ _).alloc (Nat.le_refl _) _).drew
      have hVs : V.heap.size = w1.heap.size + 1 := by rw [hV]; simp
      have D1 : CellsAt V V.heap.size ⟨b, off, none⟩ (es.take k) := ⟨by have := C1.1; omega, (C1.below hVb (Nat.le_refl _)).2⟩
      have D2 : CellsAt V V.heap.size ⟨b, off + (k + 1) * 2, none⟩ (es.drop (k + 1)) := ⟨by have := C2.1; omega, (C2.below hVb (Nat.le_refl _)).2⟩
      have HV := Lib.hid hV
      clear hV C1 C2
      have b0 : (0 : Int) ≤ (k : Int) + 1 := by omega
      have b1 : (k : Int) ≤ (cap : Int) := by omega
      have b2 : (k : Int) + 1 ≤ (es.length : Int) := by omega
      have b3 : (es.length : Int) ≤ (cap : Int) := by omega
      have wk : IntKind.i64.wrap ((k : Int) + 1) = (k : Int) + 1 := IntWalk.i64_in _ (by omega)
      have hne : w.heap.size + 1 ≠ w.heap.size := by omega
      go_wp2_with fail
      go_region_held3 (fun w' => w'.cell? ⟨w.heap.size, 0, none⟩ = some (.int .i64 n) ∧ w'.cell? ⟨w.heap.size, 1, none⟩ = some (.slice (some ⟨b, off, none⟩) es.length cap)) (first | go_keep)
        (first
          | (rw [← HV.out]; go_at_call 98; refine (concat_any _ _ _ _ _ _ _ (es.take k) (es.drop (k + 1)) _ hv1 hv2 D1 D2 (by simp; omega) (by simp) (by omega)).mono ?_; rintro e5 w5 ⟨A5, c5, rfl, own5, hb5⟩
             have L5 := (L1.step hVb s1).step hb5 (by omega)
             have z0 := L5.c0
             have z1 := L5.c1
             have q0 := (hb5.cell (p := ⟨w.heap.size + 1, 0, none⟩) (by simp; omega)).trans ((hVb.cell (p := ⟨w.heap.size + 1, 0, none⟩) s2).trans r0)
             have q1 := (hb5.cell (p := ⟨w.heap.size + 1, 1, none⟩) (by simp; omega)).trans ((hVb.cell (p := ⟨w.heap.size + 1, 1, none⟩) s2).trans r1)
             have q2 := (hb5.frozen (p := ⟨w.heap.size + 1, 0, none⟩) (by simp; omega)).trans ((hVb.frozen (p := ⟨w.heap.size + 1, 0, none⟩) s2).trans g0)
             have q3 := (hb5.frozen (p := ⟨w.heap.size + 1, 1, none⟩) (by simp; omega)).trans ((hVb.frozen (p := ⟨w.heap.size + 1, 1, none⟩) s2).trans g1)))
      all_goals
        go_wp2_with fail
        refine bodyPost_ret (v := .tuple #[.agg #[.int .i64 n, .slice A5 (es.take k ++ es.drop (k + 1)).length c5], .bool true]) (by simp [results, Try.results39, go_sem, *]) rfl ?_
        rw [hwN.out, hwE.out, HOK.out]
        have hg5 : ∀ j, (Value.slice A5 (es.take k ++ es.drop (k + 1)).length c5).ownBlock = some j → V.heap.size ≤ j := fun j hj => (World.ownsRow.lt own5 j hj).1
        refine ⟨A5, c5, rfl, ((own5.more (by omega)).far (fun j hj => by have := hg5 j hj; simp; omega) _).far (fun j hj => by have := hg5 j hj; simp; omega) _, (L5.below.setCell (by simp) _).setCell (by simp) _⟩
  · have HOK : Hid (atOkB n es a = false) := by simpa [Hid] using hok
    have hwN : Hid (wN n es a = 0) := by simp [Hid, wN, hok]
    have hwE : Hid (wE n es a = []) := by simp [Hid, wE, hok]
    clear hok
    go_enter Try.func39, Try.ntmps39
    go_wp2_with fail
    refine (edgeAtOk_any _ _ _ _ _ _ hes' hl).mono ?_
    rintro e1 w1 ⟨rfl, hb1⟩
    rw [HOK.out]
    have hc := oldCell hb1
    have hf := oldMark hb1
    have hs := hb1.size
    simp only [World.size_alloc] at hs
    go_wp2_with fail
    refine bodyPost_ret (v := .tuple #[.agg #[.int .i64 0, .slice none 0 0], .bool false]) (by simp [results, Try.results39, go_sem, hc]) rfl ?_
    rw [hwN.out, hwE.out, HOK.out]
    have hbel : Below w.heap.size w w1 := (boxB w _ _).trans ((boxEB hb1).mono (by simp))
    exact ⟨none, 0, rfl, OwnE.nil _ _, (hbel.setCell (by simp) _).setCell (by simp) _⟩
end Go.Proofs.Ytdacfeebidhgnaa
