/- WithoutEdge of the reference. -/
import Derived.Test.YtmdplmjphadhkaaWithout
namespace Go.Proofs.Ytmdplmjphadhkaa
open Go.RowKit

/-- append of a list of edges onto a row of the call's own, as one step of a region that draws. -/
theorem step_edges {ops : Array Oper} {o : Oper} {a : Act} {w : World} {K : Act → World → Prop} {Q : Exit → Act → World → Prop} {E : Prop} (hgd : o.guard = none) (s x : Operand)
    (ho : o.op = .call { callee := .builtin .append, args := #[s, x], argTypes := #[23, 23] })
    (base : Nat) (v : Value) (es : List (Int × Int)) (hs : a.eval s = v) (hown : OwnE w base v es) (B : Nat) (ad : Addr) (m c : Nat) (fs : List (Int × Int)) (hx : a.eval x = .slice (some ad) m c) (hm : m = fs.length)
    (hf : CellsAt w B ad fs) (hl : es.length + m ≤ 1000) (hb : base ≤ w.heap.size) (h : ∀ A' c' w', OwnE w' base (.slice A' (es ++ fs).length c') (es ++ fs) → w.grownBy w' v.ownBlock → K (a.put o.dst (.slice A' (es ++ fs).length c')) w') :
    if Region.wanted o (yielded ops a.tmps) = true then Oper.wp Try.prog o a w K Q else E := by
  obtain ⟨i0, hi0, hz0, hz1, hz2⟩ := info_parts edge_info
  have hw : Region.wanted o (yielded ops a.tmps) = true := by simp [Region.wanted, hgd]
  rw [if_pos hw]
  exact wp_append_own w s x 23 ho base 38 i0 _ 2 16 Try.underlying23 hi0 hz0 hz1 hz2 rfl (by omega) v es.length (flat es) hs hown ad m c (flat fs) hx (by rw [flat_length, hm]) hf.2 (flat_oneCell fs)
    (by simp [maxLen]; omega) (by omega) hb fun v' w' h2 h3 _ => by
      have hO : OwnE w' base v' (es ++ fs) := by unfold OwnE; rw [flat_append, List.length_append, ← hm]; exact h2
      rcases hO.form with ⟨rfl, he⟩ | ⟨g, cc, rfl, _⟩
      · have := h none 0 w' (by rw [he] at hO ⊢; exact hO) h3
        rw [he] at this
        exact this
      · exact h _ _ w' hO h3

set_option maxHeartbeats 1000000 in
theorem specWithoutEdge_any (n a : Int) (A : Option Addr) (cap : Nat) (es : List (Int × Int)) (w : World) (hes : EdgesIn w w.heap.size A es) (hl : es.length ≤ 1048576) (hc : es.length ≤ cap) :
    Calls Try.prog 30 #[.agg #[.int .i64 n, .slice A es.length cap], .int .i64 a] w (MadeNetB w (wN n es a) (wE n es a) (atOkB n es a)) := by
  have hes' := (boxE (boxE hes #[.int .i64 n, .slice A es.length cap] 25) #[.int .i64 0, .slice none 0 0] 25)
  by_cases hok : atOkB n es a = true
  · have hh := hok
    simp only [atOkB, Bool.and_eq_true, decide_eq_true_eq] at hh
    obtain ⟨hn, ha0, ha1⟩ := hh
    have h9 := (netOkB_iff.1 hn).2.1
    obtain ⟨k, rfl⟩ : ∃ k : Nat, a = k := ⟨a.toNat, by omega⟩
    have hk : k < es.length := by omega
    obtain ⟨b, off, rfl, hbb, _, _⟩ := hes k _ (List.getElem?_eq_getElem hk)
    have hwN : Hid (wN n es k = n) := by simp [Hid, wN, hok]
    have hwE : Hid (wE n es k = es.take k ++ es.drop (k + 1)) := by simp [Hid, wE, hok]
    have HOK := Lib.hid hok
    have HN := Lib.hid hn
    have L0 := ArgNet.start (cap := cap) (n := n) 25 hes
    have hin : Hid ((decide (0 ≤ (k : Int)) && decide ((k : Int) ≤ (es.length : Int) - 1)) = true) := by simp [Hid]; omega
    clear hok hn ha0 ha1 hes
    by_cases hcap : cap = k + 1
    · subst hcap
      go_enter Try.func30, Try.ntmps30
      go_wp2_with fail
      refine (specNetOk_any _ _ _ _ _ hes' hl).mono ?_
      rintro e1 w1 ⟨rfl, hb1⟩
      rw [HN.out]
      have L1 := (L0.step ((Below.refl _ _).alloc (Nat.le_refl _) (.cells #[.int .i64 0, .slice none 0 0] 25)) L0.lt).step hb1 (by simp; omega)
      have r0 : w1.cell? ⟨w.heap.size + 1, 0, none⟩ = some (.int .i64 0) := by
        rw [hb1.cell (p := ⟨w.heap.size + 1, 0, none⟩) (by simp), World.cell?_alloc_at _ _ _ _ (by simp)]; rfl
      have r1 : w1.cell? ⟨w.heap.size + 1, 1, none⟩ = some (.slice none 0 0) := by
        rw [hb1.cell (p := ⟨w.heap.size + 1, 1, none⟩) (by simp), World.cell?_alloc_at _ _ _ _ (by simp)]; rfl
      have g0 : w1.frozen? ⟨w.heap.size + 1, 0, none⟩ = false := (hb1.frozen (p := ⟨w.heap.size + 1, 0, none⟩) (by simp)).trans (World.frozen?_alloc_at _ _ _ _ (by simp))
      have g1 : w1.frozen? ⟨w.heap.size + 1, 1, none⟩ = false := (hb1.frozen (p := ⟨w.heap.size + 1, 1, none⟩) (by simp)).trans (World.frozen?_alloc_at _ _ _ _ (by simp))
      have s2 : w.heap.size + 1 < w1.heap.size := by have := hb1.size; simp only [World.size_alloc] at this; omega
      obtain ⟨_, _, c0, c1, s1⟩ := id L1
      clear hes' hb1 L0
      go_wp2_with fail
      refine (l1In_any _ _ _ _).mono ?_
      rintro e2 w2 ⟨rfl, rfl⟩
      rw [hin.out]
      have C1 : CellsAt w1 w1.heap.size ⟨b, off, none⟩ (es.take k) := by have := CellsAt.of L1.at_ hbb 0 k; simp at this; exact ⟨by show b < _; omega, this.2⟩
      have C2 : CellsAt w1 w1.heap.size ⟨b, off, none⟩ (es.drop (k + 1)) := by
        rw [List.drop_eq_nil_of_le (by omega)]; exact ⟨by show b < _; omega, fun j u hu => by simp [flat] at hu⟩
      have b0 : (0 : Int) ≤ (k : Int) + 1 := by omega
      have b1 : (k : Int) ≤ ((k : Int) + 1) := by omega
      have b2 : (k : Int) + 1 ≤ (es.length : Int) := by omega
      have b3 : (es.length : Int) ≤ ((k : Int) + 1) := by omega
      have wk : IntKind.i64.wrap ((k : Int) + 1) = (k : Int) + 1 := IntWalk.i64_in _ (by omega)
      have hub : Below w1.heap.size w1 (w1.alloc (.cells #[] 38)).drew := ((Below.refl _ _).alloc (Nat.le_refl _) _).drew
      have own0 : OwnE (w1.alloc (.cells #[] 38)).drew w1.heap.size (.slice (some ⟨w1.heap.size, 0, none⟩) 0 0) [] := World.ownsRow_lit w1 #[] 0 (Nat.le_refl _) (Nat.zero_le _) rfl
      have D1 := C1.below hub (Nat.le_refl _)
      have D2 := C2.below hub (Nat.le_refl _)
      have hsu : w1.heap.size ≤ (w1.alloc (.cells #[] 38)).drew.heap.size := hub.size
      have C2' := C2
      clear C1 C2 D2
      go_wp2_with fail
      go_region_held3 (fun w' => w'.cell? ⟨w.heap.size, 0, none⟩ = some (.int .i64 n) ∧ w'.cell? ⟨w.heap.size, 1, none⟩ = some (.slice (some ⟨b, off, none⟩) es.length (k + 1))) (first | go_keep)
        (first
          | (refine step_edges (by rfl) (.tmp 26) (.tmp 31) (by rfl) w1.heap.size (.slice A5 (([] : List (Int × Int)) ++ es.take k).length c5) (([] : List (Int × Int)) ++ es.take k) (by simp [Act.eval]) own5 w1.heap.size ⟨b, off, none⟩ 0 0 (es.drop (k + 1)) (by simp [Act.eval]) (by simp; omega) E2 (by simp; omega) hz5 ?_; intro A6 c6 w6 own6 hg6; have hb6 := hb5.grown hg6 hz5 (fun j hj => (World.ownsRow.lt own5 j hj).1); have L6 := L1.step hb6 s1; have y0 := L6.c0; have y1 := L6.c1; have q0 := (hb6.cell (p := ⟨w.heap.size + 1, 0, none⟩) s2).trans r0; have q1 := (hb6.cell (p := ⟨w.heap.size + 1, 1, none⟩) s2).trans r1; have q2 := (hb6.frozen (p := ⟨w.heap.size + 1, 0, none⟩) s2).trans g0; have q3 := (hb6.frozen (p := ⟨w.heap.size + 1, 1, none⟩) s2).trans g1)
          | (refine step_edges (by rfl) (.tmp 21) (.tmp 25) (by rfl) w1.heap.size (.slice (some ⟨w1.heap.size, 0, none⟩) 0 0) [] (by simp [Act.eval]) own0 w1.heap.size ⟨b, off, none⟩ k (k + 1) (es.take k) (by simp [Act.eval]) (by simp; omega) D1 (by simp; omega) hsu ?_; intro A5 c5 w5 own5 hg5; have hb5 := hub.grown hg5 hsu (fun j hj => (World.ownsRow.lt own0 j hj).1); have hz5 := hb5.size; have E2 := C2'.below hb5 (Nat.le_refl _); have L5 := L1.step hb5 s1; have z0 := L5.c0; have z1 := L5.c1))
      all_goals
        go_wp2_with fail
        have hl2 : (es.take k ++ es.drop (k + 1)).length = min k es.length + (es.length - (k + 1)) := by simp
        rw [List.nil_append, hl2] at own6
        refine bodyPost_ret (v := .tuple #[.agg #[.int .i64 n, .slice A6 (min k es.length + (es.length - (k + 1))) c6], .bool true]) (by simp [results, Try.results30, go_sem, *]) rfl ?_
        rw [hwN.out, hwE.out, HOK.out]
        have hg7 : ∀ j, (Value.slice A6 (min k es.length + (es.length - (k + 1))) c6).ownBlock = some j → w1.heap.size ≤ j := fun j hj => (World.ownsRow.lt own6 j hj).1
        refine ⟨A6, c6, by rw [hl2], ?_, (L6.below.setCell (by simp) _).setCell (by simp) _⟩
        rw [hl2]
        exact ((own6.more (by omega)).far (fun j hj => by have := hg7 j hj; simp; omega) _).far (fun j hj => by have := hg7 j hj; simp; omega) _
    · go_enter Try.func30, Try.ntmps30
      go_wp2_with fail
      refine (specNetOk_any _ _ _ _ _ hes' hl).mono ?_
      rintro e1 w1 ⟨rfl, hb1⟩
      rw [HN.out]
      have L1 := (L0.step ((Below.refl _ _).alloc (Nat.le_refl _) (.cells #[.int .i64 0, .slice none 0 0] 25)) L0.lt).step hb1 (by simp; omega)
      have r0 : w1.cell? ⟨w.heap.size + 1, 0, none⟩ = some (.int .i64 0) := by
        rw [hb1.cell (p := ⟨w.heap.size + 1, 0, none⟩) (by simp), World.cell?_alloc_at _ _ _ _ (by simp)]; rfl
      have r1 : w1.cell? ⟨w.heap.size + 1, 1, none⟩ = some (.slice none 0 0) := by
        rw [hb1.cell (p := ⟨w.heap.size + 1, 1, none⟩) (by simp), World.cell?_alloc_at _ _ _ _ (by simp)]; rfl
      have g0 : w1.frozen? ⟨w.heap.size + 1, 0, none⟩ = false := (hb1.frozen (p := ⟨w.heap.size + 1, 0, none⟩) (by simp)).trans (World.frozen?_alloc_at _ _ _ _ (by simp))
      have g1 : w1.frozen? ⟨w.heap.size + 1, 1, none⟩ = false := (hb1.frozen (p := ⟨w.heap.size + 1, 1, none⟩) (by simp)).trans (World.frozen?_alloc_at _ _ _ _ (by simp))
      have s2 : w.heap.size + 1 < w1.heap.size := by have := hb1.size; simp only [World.size_alloc] at this; omega
      obtain ⟨_, _, c0, c1, s1⟩ := id L1
      clear hes' hb1 L0
      go_wp2_with fail
      refine (l1In_any _ _ _ _).mono ?_
      rintro e2 w2 ⟨rfl, rfl⟩
      rw [hin.out]
      have C1 : CellsAt w1 w1.heap.size ⟨b, off, none⟩ (es.take k) := by have := CellsAt.of L1.at_ hbb 0 k; simp at this; exact ⟨by show b < _; omega, this.2⟩
      have C2 : CellsAt w1 w1.heap.size ⟨b, off + (k + 1) * 2, none⟩ (es.drop (k + 1)) := by
        have := CellsAt.of L1.at_ hbb (k + 1) es.length; rw [List.take_of_length_le (by simp)] at this; exact ⟨by show b < _; omega, this.2⟩
      have b0 : (0 : Int) ≤ (k : Int) + 1 := by omega
      have b1 : (k : Int) ≤ (cap : Int) := by omega
      have b2 : (k : Int) + 1 ≤ (es.length : Int) := by omega
      have b3 : (es.length : Int) ≤ (cap : Int) := by omega
      have wk : IntKind.i64.wrap ((k : Int) + 1) = (k : Int) + 1 := IntWalk.i64_in _ (by omega)
      have hub : Below w1.heap.size w1 (w1.alloc (.cells #[] 38)).drew := ((Below.refl _ _).alloc (Nat.le_refl _) _).drew
      have own0 : OwnE (w1.alloc (.cells #[] 38)).drew w1.heap.size (.slice (some ⟨w1.heap.size, 0, none⟩) 0 0) [] := World.ownsRow_lit w1 #[] 0 (Nat.le_refl _) (Nat.zero_le _) rfl
      have D1 := C1.below hub (Nat.le_refl _)
      have D2 := C2.below hub (Nat.le_refl _)
      have hsu : w1.heap.size ≤ (w1.alloc (.cells #[] 38)).drew.heap.size := hub.size
      have C2' := C2
      clear C1 C2 D2
      have hcap' : ¬ (k + 1 = cap) := fun e => hcap e.symm
      go_wp2_with fail
      go_region_held3 (fun w' => w'.cell? ⟨w.heap.size, 0, none⟩ = some (.int .i64 n) ∧ w'.cell? ⟨w.heap.size, 1, none⟩ = some (.slice (some ⟨b, off, none⟩) es.length cap)) (first | go_keep)
        (first
          | (refine step_edges (by rfl) (.tmp 26) (.tmp 31) (by rfl) w1.heap.size (.slice A5 (([] : List (Int × Int)) ++ es.take k).length c5) (([] : List (Int × Int)) ++ es.take k) (by simp [Act.eval]) own5 w1.heap.size ⟨b, off + (k + 1) * 2, none⟩ (es.length - (k + 1)) (cap - (k + 1)) (es.drop (k + 1)) (by simp [Act.eval]) (by simp) E2 (by simp; omega) hz5 ?_; intro A6 c6 w6 own6 hg6; have hb6 := hb5.grown hg6 hz5 (fun j hj => (World.ownsRow.lt own5 j hj).1); have L6 := L1.step hb6 s1; have y0 := L6.c0; have y1 := L6.c1; have q0 := (hb6.cell (p := ⟨w.heap.size + 1, 0, none⟩) s2).trans r0; have q1 := (hb6.cell (p := ⟨w.heap.size + 1, 1, none⟩) s2).trans r1; have q2 := (hb6.frozen (p := ⟨w.heap.size + 1, 0, none⟩) s2).trans g0; have q3 := (hb6.frozen (p := ⟨w.heap.size + 1, 1, none⟩) s2).trans g1)
          | (refine step_edges (by rfl) (.tmp 21) (.tmp 25) (by rfl) w1.heap.size (.slice (some ⟨w1.heap.size, 0, none⟩) 0 0) [] (by simp [Act.eval]) own0 w1.heap.size ⟨b, off, none⟩ k cap (es.take k) (by simp [Act.eval]) (by simp; omega) D1 (by simp; omega) hsu ?_; intro A5 c5 w5 own5 hg5; have hb5 := hub.grown hg5 hsu (fun j hj => (World.ownsRow.lt own0 j hj).1); have hz5 := hb5.size; have E2 := C2'.below hb5 (Nat.le_refl _); have L5 := L1.step hb5 s1; have z0 := L5.c0; have z1 := L5.c1))
      all_goals
        go_wp2_with fail
        have hl2 : (es.take k ++ es.drop (k + 1)).length = min k es.length + (es.length - (k + 1)) := by simp
        rw [List.nil_append, hl2] at own6
        refine bodyPost_ret (v := .tuple #[.agg #[.int .i64 n, .slice A6 (min k es.length + (es.length - (k + 1))) c6], .bool true]) (by simp [results, Try.results30, go_sem, *]) rfl ?_
        rw [hwN.out, hwE.out, HOK.out]
        have hg7 : ∀ j, (Value.slice A6 (min k es.length + (es.length - (k + 1))) c6).ownBlock = some j → w1.heap.size ≤ j := fun j hj => (World.ownsRow.lt own6 j hj).1
        refine ⟨A6, c6, by rw [hl2], ?_, (L6.below.setCell (by simp) _).setCell (by simp) _⟩
        rw [hl2]
        exact ((own6.more (by omega)).far (fun j hj => by have := hg7 j hj; simp; omega) _).far (fun j hj => by have := hg7 j hj; simp; omega) _
  · have HOK : Hid (atOkB n es a = false) := by simpa [Hid] using hok
    have hwN : Hid (wN n es a = 0) := by simp [Hid, wN, hok]
    have hwE : Hid (wE n es a = []) := by simp [Hid, wE, hok]
    by_cases hn : netOkB n es = true
    · have HN := Lib.hid hn
      have hin : Hid ((decide (0 ≤ a) && decide (a ≤ (es.length : Int) - 1)) = false) := by
        have := HOK.out
        simp only [atOkB, hn, Bool.true_and] at this
        unfold Hid
        rw [← this]
        congr 1
        rw [Bool.eq_iff_iff]; simp; omega
      clear hok hn
      go_enter Try.func30, Try.ntmps30
      go_wp2_with fail
      refine (specNetOk_any _ _ _ _ _ hes' hl).mono ?_
      rintro e1 w1 ⟨rfl, hb1⟩
      rw [HN.out]
      have hc := oldCell hb1
      have hf := oldMark hb1
      have hs := hb1.size
      simp only [World.size_alloc] at hs
      go_wp2_with fail
      refine (l1In_any _ _ _ _).mono ?_
      rintro e2 w2 ⟨rfl, rfl⟩
      rw [hin.out]
      go_wp2_with fail
      refine bodyPost_ret (v := .tuple #[.agg #[.int .i64 0, .slice none 0 0], .bool false]) (by simp [results, Try.results30, go_sem, hc]) rfl ?_
      rw [hwN.out, hwE.out, HOK.out]
      have hbel : Below w.heap.size w w1 := (boxB w _ _).trans ((boxEB hb1).mono (by simp))
      exact ⟨none, 0, rfl, OwnE.nil _ _, (hbel.setCell (by simp) _).setCell (by simp) _⟩
    · have HN : Hid (netOkB n es = false) := by simpa [Hid] using hn
      clear hok hn
      go_enter Try.func30, Try.ntmps30
      go_wp2_with fail
      refine (specNetOk_any _ _ _ _ _ hes' hl).mono ?_
      rintro e1 w1 ⟨rfl, hb1⟩
      rw [HN.out]
      have hc := oldCell hb1
      have hf := oldMark hb1
      have hs := hb1.size
      simp only [World.size_alloc] at hs
      go_wp2_with fail
      refine bodyPost_ret (v := .tuple #[.agg #[.int .i64 0, .slice none 0 0], .bool false]) (by simp [results, Try.results30, go_sem, hc]) rfl ?_
      rw [hwN.out, hwE.out, HOK.out]
      have hbel : Below w.heap.size w w1 := (boxB w _ _).trans ((boxEB hb1).mono (by simp))
      exact ⟨none, 0, rfl, OwnE.nil _ _, (hbel.setCell (by simp) _).setCell (by simp) _⟩
end Go.Proofs.Ytmdplmjphadhkaa
