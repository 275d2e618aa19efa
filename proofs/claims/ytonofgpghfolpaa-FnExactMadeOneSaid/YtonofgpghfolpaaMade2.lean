/- MadeOne of the reference: its contract. -/
import Derived.Test.YtonofgpghfolpaaMade
import Derived.Deep.QuietTactic
import Derived.BigQuiet
import Derived.BigRegion
import Derived.Deep.RegionHeld3
import Derived.Deep.RegionLawGrows
import Derived.Deep.AppendLies
namespace Go.Proofs.Ytonofgpghfolpaa
open Go.RowKit

/-- What stands before the loop: the net's box, the result's, the edge's, and the one of the net that is made. -/
structure MadeOut (w wr : World) (n : Int) (A : Option Addr) (cap : Nat) (es : List (Int × Int)) (B1 : Nat) (ga gb : Int) (v : Value) : Prop where
  L : ArgNet w wr n A cap es
  r0 : wr.cell? ⟨w.heap.size + 1, 0, none⟩ = some (.int .i64 0)
  r1 : wr.cell? ⟨w.heap.size + 1, 1, none⟩ = some (.slice none 0 0)
  q0 : wr.frozen? ⟨w.heap.size + 1, 0, none⟩ = false
  q1 : wr.frozen? ⟨w.heap.size + 1, 1, none⟩ = false
  x0 : wr.cell? ⟨B1, 0, none⟩ = some (.int .i64 ga)
  x1 : wr.cell? ⟨B1, 1, none⟩ = some (.int .i64 gb)
  y0 : wr.cell? ⟨B1 + 1, 0, none⟩ = some (.int .i64 (n - 1))
  y1 : wr.cell? ⟨B1 + 1, 1, none⟩ = some v
  y2 : wr.frozen? ⟨B1 + 1, 1, none⟩ = false
  o1 : w.heap.size + 1 < B1
  o2 : B1 + 1 < wr.heap.size
theorem MadeOut.step {w wr w2 : World} {n : Int} {A : Option Addr} {cap B : Nat} {es : List (Int × Int)} {B1 : Nat} {ga gb : Int} {v : Value} (h : MadeOut w wr n A cap es B1 ga gb v) (hb : Below B wr w2) (hB : B1 + 1 < B) : MadeOut w w2 n A cap es B1 ga gb v := by
  have o1 := h.o1
  have o2 := h.o2
  have hs := hb.size
  have cc : ∀ b o, b < B → w2.cell? ⟨b, o, none⟩ = wr.cell? ⟨b, o, none⟩ := fun b o h => hb.cell (p := ⟨b, o, none⟩) h
  have ff : ∀ b o, b < B → w2.frozen? ⟨b, o, none⟩ = wr.frozen? ⟨b, o, none⟩ := fun b o h => hb.frozen (p := ⟨b, o, none⟩) h
  exact ⟨h.L.step hb (by omega), (cc _ _ (by omega)).trans h.r0, (cc _ _ (by omega)).trans h.r1, (ff _ _ (by omega)).trans h.q0, (ff _ _ (by omega)).trans h.q1,
    (cc _ _ (by omega)).trans h.x0, (cc _ _ (by omega)).trans h.x1, (cc _ _ (by omega)).trans h.y0, (cc _ _ (by omega)).trans h.y1, (ff _ _ (by omega)).trans h.y2, o1, by omega⟩
theorem MadeOut.stored {w wr : World} {n : Int} {A : Option Addr} {cap : Nat} {es : List (Int × Int)} {B1 : Nat} {ga gb : Int} {v : Value} (h : MadeOut w wr n A cap es B1 ga gb v) (u : Value) : MadeOut w (wr.setCell ⟨B1 + 1, 1, none⟩ u) n A cap es B1 ga gb u := by
  have o1 := h.o1
  have o2 := h.o2
  have hb : Below (B1 + 1) wr (wr.setCell ⟨B1 + 1, 1, none⟩ u) := (Below.refl _ _).setCell (by simp) _
  have cc : ∀ b o, b < B1 + 1 → (wr.setCell ⟨B1 + 1, 1, none⟩ u).cell? ⟨b, o, none⟩ = wr.cell? ⟨b, o, none⟩ := fun b o h => hb.cell (p := ⟨b, o, none⟩) h
  have ff : ∀ b o, b < B1 + 1 → (wr.setCell ⟨B1 + 1, 1, none⟩ u).frozen? ⟨b, o, none⟩ = wr.frozen? ⟨b, o, none⟩ := fun b o h => hb.frozen (p := ⟨b, o, none⟩) h
  have e0 : (wr.setCell ⟨B1 + 1, 1, none⟩ u).cell? ⟨B1 + 1, 0, none⟩ = some (.int .i64 (n - 1)) := by
    rw [← h.y0]; simp [go_sem]
  have e1 : (wr.setCell ⟨B1 + 1, 1, none⟩ u).cell? ⟨B1 + 1, 1, none⟩ = some u := by
    simp [go_sem, h.y1]
  have e2 : (wr.setCell ⟨B1 + 1, 1, none⟩ u).frozen? ⟨B1 + 1, 1, none⟩ = false := by
    rw [← h.y2]; simp [go_sem]
  exact ⟨h.L.step hb (by omega), (cc _ _ (by omega)).trans h.r0, (cc _ _ (by omega)).trans h.r1, (ff _ _ (by omega)).trans h.q0, (ff _ _ (by omega)).trans h.q1,
    (cc _ _ (by omega)).trans h.x0, (cc _ _ (by omega)).trans h.x1, e0, e1, e2, o1, by simpa [World.setCell] using o2⟩

/-- Two integers in a row of the call's own. -/
def Two (w : World) (base nb : Nat) (a b : Int) : Prop := w.ownsRow base 3 1 (.slice (some ⟨nb, 0, none⟩) 2 2) 2 [.int .i64 a, .int .i64 b]
theorem Two.c0 {w : World} {base nb : Nat} {a b : Int} (h : Two w base nb a b) : w.cell? ⟨nb, 0, none⟩ = some (.int .i64 a) := World.ownsRow.cellAt h 0 (by omega)
theorem Two.c1 {w : World} {base nb : Nat} {a b : Int} (h : Two w base nb a b) : w.cell? ⟨nb, 1, none⟩ = some (.int .i64 b) := World.ownsRow.cellAt h 1 (by omega)
theorem Two.frozen {w : World} {base nb : Nat} {a b : Int} (h : Two w base nb a b) (k : Nat) : w.frozen? ⟨nb, k, none⟩ = false := World.ownsRow.frozenAt h k
theorem Two.s0 {w : World} {base nb : Nat} {a b : Int} (h : Two w base nb a b) (x : Int) : Two (w.setCell ⟨nb, 0, none⟩ (.int .i64 x)) base nb x b := (World.ownsRow.stored h 0 (.int .i64 x)).1
theorem Two.s1 {w : World} {base nb : Nat} {a b : Int} (h : Two w base nb a b) (x : Int) : Two (w.setCell ⟨nb, 1, none⟩ (.int .i64 x)) base nb a x := (World.ownsRow.stored h 1 (.int .i64 x)).1
theorem Two.box (w : World) {base : Nat} (a b : Int) (hb : base ≤ w.heap.size) : Two (w.alloc (.cells #[.int .i64 a, .int .i64 b] 3)) base w.heap.size a b :=
  ⟨rfl, .inr ⟨w.heap.size, 2, _, rfl, hb, heap_alloc_new w _, Nat.le_refl _, by decide, rfl, rfl⟩⟩
theorem Two.below {w w' : World} {base nb B : Nat} {a b : Int} (h : Two w base nb a b) (hb : Below B w w') (hB : nb < B) : Two w' base nb a b := by
  rcases h.2 with ⟨hv, _⟩ | ⟨g', cap, cur, hv, hb', hh, h3⟩
  · cases hv
  · have hg : g' = nb := by injection hv with h1 _ _; injection h1 with h1; injection h1 with h1; exact h1.symm
    subst hg
    exact ⟨h.1, .inr ⟨g', cap, cur, hv, hb', (hb.block g' hB).trans hh, h3⟩⟩

set_option maxRecDepth 100000 in
set_option maxHeartbeats 4000000 in
theorem specMadeOne_not (n a : Int) (A : Option Addr) (cap : Nat) (es : List (Int × Int)) (w : World) (hes : EdgesIn w w.heap.size A es) (hl : es.length ≤ 1048576) (hok : ¬ mOk n es a = true) :
    Calls Try.prog 17 #[.agg #[.int .i64 n, .slice A es.length cap], .int .i64 a] w (GotMade w (mN n es a) (mE n es a) (mL n es a) (mOk n es a)) := by
  have hes' := (boxE (boxE hes #[.int .i64 n, .slice A es.length cap] 25) #[.int .i64 0, .slice none 0 0] 25)
  have L0 := (ArgNet.start (cap := cap) (n := n) 25 hes).step ((Below.refl (w.heap.size + 1) _).alloc (by simp) (.cells #[.int .i64 0, .slice none 0 0] 25)) (by omega)
  have HOK : Hid (mOk n es a = false) := by simpa [Hid] using hok
  have HN : Hid (mN n es a = 0) := by simp [Hid, mN, HOK.out]
  have HE : Hid (mE n es a = []) := by simp [Hid, mE, HOK.out]
  have HL : Hid (mL n es a = -1) := by simp [Hid, mL, HOK.out]
  rw [HN.out, HE.out, HL.out, HOK.out]
  by_cases hn : netOkB n es = true
  · have hn6 := (netOkB_iff.1 hn).1
    have h9 := (netOkB_iff.1 hn).2.1
    have HNET := Lib.hid hn
    have hwl : IntKind.i64.wrap ((es.length : Int) - 1) = (es.length : Int) - 1 := IntWalk.i64_in _ (by omega)
    by_cases hin : 0 ≤ a ∧ a ≤ (es.length : Int) - 1
    · have hin' : Hid ((decide ((0 : Int) ≤ a) && decide (a ≤ (es.length : Int) - 1)) = true) := by simp [Hid]; omega
      have hn3 : n < 3 := by
        simp only [mOk, atOkB, hn, Bool.true_and, Bool.and_eq_true, decide_eq_true_eq] at hok
        omega
      clear hok hn hin
      go_enter Try.func17, Try.ntmps17
      go_wp2_with fail
      refine (specNetOk_any _ _ _ _ _ hes' hl).mono ?_
      rintro e1 w1 ⟨rfl, hb1⟩
      rw [HNET.out]
      have r0 : w1.cell? ⟨w.heap.size + 1, 0, none⟩ = some (.int .i64 0) := by
        rw [hb1.cell (p := ⟨w.heap.size + 1, 0, none⟩) (by simp), World.cell?_alloc_at _ _ _ _ (by simp)]; rfl
      have r1 : w1.cell? ⟨w.heap.size + 1, 1, none⟩ = some (.slice none 0 0) := by
        rw [hb1.cell (p := ⟨w.heap.size + 1, 1, none⟩) (by simp), World.cell?_alloc_at _ _ _ _ (by simp)]; rfl
      have q0 : w1.frozen? ⟨w.heap.size + 1, 0, none⟩ = false := (hb1.frozen (p := ⟨w.heap.size + 1, 0, none⟩) (by simp)).trans (World.frozen?_alloc_at _ _ _ _ (by simp))
      have q1 : w1.frozen? ⟨w.heap.size + 1, 1, none⟩ = false := (hb1.frozen (p := ⟨w.heap.size + 1, 1, none⟩) (by simp)).trans (World.frozen?_alloc_at _ _ _ _ (by simp))
      have L1 := L0.step hb1 (by simp; omega)
      have BB := L1.below
      obtain ⟨_, _, c0, c1, s1⟩ := id L1
      clear hb1 hes' L0
      go_wp2_with fail
      refine (l1In_any _ _ _ _).mono ?_
      rintro e2 w2 ⟨rfl, rfl⟩
      rw [hin'.out]
      go_wp2_with fail
      refine bodyPost_ret (v := .tuple #[.agg #[.int .i64 0, .slice none 0 0], .int .i64 (-1), .bool false]) (by simp [results, Try.results17, go_sem, *]) rfl ?_
      exact ⟨none, 0, rfl, OwnE.nil _ _, (BB.setCell (by simp) _).setCell (by simp) _⟩
    · have hin' : Hid ((decide ((0 : Int) ≤ a) && decide (a ≤ (es.length : Int) - 1)) = false) := by simp [Hid]; omega
      clear hok hn hin
      go_enter Try.func17, Try.ntmps17
      go_wp2_with fail
      refine (specNetOk_any _ _ _ _ _ hes' hl).mono ?_
      rintro e1 w1 ⟨rfl, hb1⟩
      rw [HNET.out]
      have r0 : w1.cell? ⟨w.heap.size + 1, 0, none⟩ = some (.int .i64 0) := by
        rw [hb1.cell (p := ⟨w.heap.size + 1, 0, none⟩) (by simp), World.cell?_alloc_at _ _ _ _ (by simp)]; rfl
      have r1 : w1.cell? ⟨w.heap.size + 1, 1, none⟩ = some (.slice none 0 0) := by
        rw [hb1.cell (p := ⟨w.heap.size + 1, 1, none⟩) (by simp), World.cell?_alloc_at _ _ _ _ (by simp)]; rfl
      have q0 : w1.frozen? ⟨w.heap.size + 1, 0, none⟩ = false := (hb1.frozen (p := ⟨w.heap.size + 1, 0, none⟩) (by simp)).trans (World.frozen?_alloc_at _ _ _ _ (by simp))
      have q1 : w1.frozen? ⟨w.heap.size + 1, 1, none⟩ = false := (hb1.frozen (p := ⟨w.heap.size + 1, 1, none⟩) (by simp)).trans (World.frozen?_alloc_at _ _ _ _ (by simp))
      have L1 := L0.step hb1 (by simp; omega)
      have BB := L1.below
      obtain ⟨_, _, c0, c1, s1⟩ := id L1
      clear hb1 hes' L0
      go_wp2_with fail
      refine (l1In_any _ _ _ _).mono ?_
      rintro e2 w2 ⟨rfl, rfl⟩
      rw [hin'.out]
      go_wp2_with fail
      refine bodyPost_ret (v := .tuple #[.agg #[.int .i64 0, .slice none 0 0], .int .i64 (-1), .bool false]) (by simp [results, Try.results17, go_sem, *]) rfl ?_
      exact ⟨none, 0, rfl, OwnE.nil _ _, (BB.setCell (by simp) _).setCell (by simp) _⟩
  · have HNET : Hid (netOkB n es = false) := by simpa [Hid] using hn
    clear hok hn
    go_enter Try.func17, Try.ntmps17
    go_wp2_with fail
    refine (specNetOk_any _ _ _ _ _ hes' hl).mono ?_
    rintro e1 w1 ⟨rfl, hb1⟩
    rw [HNET.out]
    have r0 : w1.cell? ⟨w.heap.size + 1, 0, none⟩ = some (.int .i64 0) := by
      rw [hb1.cell (p := ⟨w.heap.size + 1, 0, none⟩) (by simp), World.cell?_alloc_at _ _ _ _ (by simp)]; rfl
    have r1 : w1.cell? ⟨w.heap.size + 1, 1, none⟩ = some (.slice none 0 0) := by
      rw [hb1.cell (p := ⟨w.heap.size + 1, 1, none⟩) (by simp), World.cell?_alloc_at _ _ _ _ (by simp)]; rfl
    have q0 : w1.frozen? ⟨w.heap.size + 1, 0, none⟩ = false := (hb1.frozen (p := ⟨w.heap.size + 1, 0, none⟩) (by simp)).trans (World.frozen?_alloc_at _ _ _ _ (by simp))
    have q1 : w1.frozen? ⟨w.heap.size + 1, 1, none⟩ = false := (hb1.frozen (p := ⟨w.heap.size + 1, 1, none⟩) (by simp)).trans (World.frozen?_alloc_at _ _ _ _ (by simp))
    have L1 := L0.step hb1 (by simp; omega)
    have BB := L1.below
    obtain ⟨_, _, c0, c1, s1⟩ := id L1
    clear hb1 hes' L0
    go_wp2_with fail
    refine bodyPost_ret (v := .tuple #[.agg #[.int .i64 0, .slice none 0 0], .int .i64 (-1), .bool false]) (by simp [results, Try.results17, go_sem, *]) rfl ?_
    exact ⟨none, 0, rfl, OwnE.nil _ _, (BB.setCell (by simp) _).setCell (by simp) _⟩

set_option maxRecDepth 100000 in
set_option maxHeartbeats 4000000 in
theorem specMadeOne_any (n a : Int) (A : Option Addr) (cap : Nat) (es : List (Int × Int)) (w : World) (hes : EdgesIn w w.heap.size A es) (hl : es.length ≤ 1048576) :
    Calls Try.prog 17 #[.agg #[.int .i64 n, .slice A es.length cap], .int .i64 a] w (GotMade w (mN n es a) (mE n es a) (mL n es a) (mOk n es a)) := by
  have hes' := (boxE (boxE hes #[.int .i64 n, .slice A es.length cap] 25) #[.int .i64 0, .slice none 0 0] 25)
  have L0 := (ArgNet.start (cap := cap) (n := n) 25 hes).step ((Below.refl (w.heap.size + 1) _).alloc (by simp) (.cells #[.int .i64 0, .slice none 0 0] 25)) (by omega)
  by_cases hok : mOk n es a = true
  · have hh := hok
    simp only [mOk, atOkB, Bool.and_eq_true, decide_eq_true_eq] at hh
    obtain ⟨⟨hn, ha0, ha1⟩, hn3⟩ := hh
    have hn6 := (netOkB_iff.1 hn).1
    have h9 := (netOkB_iff.1 hn).2.1
    obtain ⟨k, rfl⟩ : ∃ k : Nat, a = k := ⟨a.toNat, by omega⟩
    have hk : k < es.length := by omega
    have hin : Hid ((decide ((0 : Int) ≤ k) && decide ((k : Int) ≤ (es.length : Int) - 1)) = true) := by simp [Hid]; omega
    have hwl : IntKind.i64.wrap ((es.length : Int) - 1) = (es.length : Int) - 1 := IntWalk.i64_in _ (by omega)
    have hgd : es.getD k (0, 0) = es[k] := by simp [hk]
    obtain ⟨gg, hgg⟩ : ∃ gg, es[k] = gg := ⟨_, rfl⟩
    have HN : Hid (mN n es k = n - 1) := by simp [Hid, mN, hok]
    have HE : Hid (mE n es k = madeL gg es) := by simp only [Hid, mE, hok, if_true, Int.toNat_natCast, hgd, hgg]
    have HL : Hid (mL n es k = (es.countP (fun e => eqEB e gg) : Nat) - 1) := by simp only [Hid, mL, hok, if_true, Int.toNat_natCast, hgd, hgg]
    have hge := fit_ends hn hk
    rw [hgg] at hge
    obtain ⟨b, off, rfl, hbb, g1, g2⟩ := hes k _ (List.getElem?_eq_getElem hk)
    rw [hgg] at g1 g2
    obtain ⟨ga, gb⟩ := gg
    have HOK := Lib.hid hok
    have HGG := Lib.hid hgg
    have HNET := Lib.hid hn
    clear hok hn hgd hgg hes g1 g2
    go_enter Try.func17, Try.ntmps17
    go_wp2_with fail
    refine (specNetOk_any _ _ _ _ _ hes' hl).mono ?_
    rintro e1 w1 ⟨rfl, hb1⟩
    rw [HNET.out]
    have L1 := L0.step hb1 (by simp; omega)
    obtain ⟨_, _, c0, c1, s1⟩ := id L1
    have r0 : w1.cell? ⟨w.heap.size + 1, 0, none⟩ = some (.int .i64 0) := by
      rw [hb1.cell (p := ⟨w.heap.size + 1, 0, none⟩) (by simp), World.cell?_alloc_at _ _ _ _ (by simp)]; rfl
    have r1 : w1.cell? ⟨w.heap.size + 1, 1, none⟩ = some (.slice none 0 0) := by
      rw [hb1.cell (p := ⟨w.heap.size + 1, 1, none⟩) (by simp), World.cell?_alloc_at _ _ _ _ (by simp)]; rfl
    have q0 : w1.frozen? ⟨w.heap.size + 1, 0, none⟩ = false := (hb1.frozen (p := ⟨w.heap.size + 1, 0, none⟩) (by simp)).trans (World.frozen?_alloc_at _ _ _ _ (by simp))
    have q1 : w1.frozen? ⟨w.heap.size + 1, 1, none⟩ = false := (hb1.frozen (p := ⟨w.heap.size + 1, 1, none⟩) (by simp)).trans (World.frozen?_alloc_at _ _ _ _ (by simp))
    have s2 : w.heap.size + 1 < w1.heap.size := by have := hb1.size; simp only [World.size_alloc] at this; omega
    obtain ⟨b', off', he', _, g1, g2⟩ := L1.at_ k _ (List.getElem?_eq_getElem hk)
    injection he' with he'; injection he' with he1 he2
    subst he1 he2
    rw [HGG.out] at g1 g2
    clear hb1 hes' L0
    go_wp2_with fail
    refine (l1In_any _ _ _ _).mono ?_
    rintro e2 w2 ⟨rfl, rfl⟩
    rw [hin.out]
    go_wp2_with fail
    have M0 : MadeOut w ((w1.alloc (.cells #[.int .i64 ga, .int .i64 gb] 33)).alloc (.cells #[.int .i64 (n - 1), .slice none 0 0] 25)) n (some ⟨b, off, none⟩) cap es w1.heap.size ga gb (.slice none 0 0) := by
      have hbel : Below w1.heap.size w1 ((w1.alloc (.cells #[.int .i64 ga, .int .i64 gb] 33)).alloc (.cells #[.int .i64 (n - 1), .slice none 0 0] 25)) := ((Below.refl _ _).alloc (Nat.le_refl _) _).alloc (by simp) _
      refine ⟨L1.step hbel s1, (hbel.cell (p := ⟨_, 0, none⟩) s2).trans r0, (hbel.cell (p := ⟨_, 1, none⟩) s2).trans r1, (hbel.frozen (p := ⟨_, 0, none⟩) s2).trans q0, (hbel.frozen (p := ⟨_, 1, none⟩) s2).trans q1, ?_, ?_, ?_, ?_, ?_, s2, by simp⟩
      · rw [((Below.refl (w1.heap.size + 1) (w1.alloc (.cells #[.int .i64 ga, .int .i64 gb] 33))).alloc (by simp) _).cell (p := ⟨w1.heap.size, 0, none⟩) (by simp), World.cell?_alloc_at _ _ _ _ rfl]; rfl
      · rw [((Below.refl (w1.heap.size + 1) (w1.alloc (.cells #[.int .i64 ga, .int .i64 gb] 33))).alloc (by simp) _).cell (p := ⟨w1.heap.size, 1, none⟩) (by simp), World.cell?_alloc_at _ _ _ _ rfl]; rfl
      · rw [World.cell?_alloc_at _ _ _ _ (by simp)]; rfl
      · rw [World.cell?_alloc_at _ _ _ _ (by simp)]; rfl
      · rw [World.frozen?_alloc_at _ _ _ _ (by simp)]
    clear L1 c0 c1 s1 r0 r1 q0 q1 s2 g1 g2 hin hwl
    generalize ((w1.alloc (.cells #[.int .i64 ga, .int .i64 gb] 33)).alloc (.cells #[.int .i64 (n - 1), .slice none 0 0] 25)) = W0 at *
    generalize w1.heap.size = B1 at *
    obtain ⟨i0, hi0, hz0, hz1, hz2⟩ := info_parts edge_info
    go_loopw [9, 10] (fun v t wr => ∃ (j : Nat) (A' : Option Addr) (c' : Nat), j ≤ es.length ∧ t = .int .i64 (j : Nat) ∧ v = .int .i64 ((es.take j).countP (fun e => eqEB e (ga, gb)) : Nat) ∧ OwnE wr (B1 + 2) (.slice A' (madeL (ga, gb) (es.take j)).length c') (madeL (ga, gb) (es.take j)) ∧ MadeOut w wr n (some ⟨b, off, none⟩) cap es B1 ga gb (.slice A' (madeL (ga, gb) (es.take j)).length c')) (fun _ t _ => es.length - (intOf t).toNat)
    case atStart => exact ⟨0, none, 0, by omega, rfl, rfl, OwnE.nil _ _, M0⟩
    case round =>
      obtain ⟨j, A', c', hj, rfl, rfl, OW, M⟩ := hrel
      obtain ⟨L, r0, r1, q0, q1, x0, x1, y0, y1, y2, o1, o2⟩ := id M
      obtain ⟨_, _, c0, c1, s1⟩ := id L
      have o3 : B1 < wr.heap.size := by omega
      have o4 : w.heap.size + 1 < wr.heap.size := by omega
      by_cases hlt : j < es.length
      · have hmt := madeL_take (g := (ga, gb)) hlt
        have hct := countP_take_succ hlt (fun e => eqEB e (ga, gb))
        have hcl := countP_take_le (l := es) (k := j) (fun e => eqEB e (ga, gb))
        have hfe := fit_ends HNET.out hlt
        obtain ⟨b', off', he', _, g1, g2⟩ := L.at_ j _ (List.getElem?_eq_getElem hlt)
        injection he' with he'; injection he' with he1 he2
        subst he1 he2
        obtain ⟨ed, hed⟩ : ∃ ed, es[j] = ed := ⟨_, rfl⟩
        rw [hed] at hmt hfe g1 g2 hct
        clear hed
        obtain ⟨ex, ey⟩ := ed
        have hren := ren_eq (g := (ga, gb)) (e := (ex, ey)) hge.2.1 hfe.2.1
        have hKl := madeL_le (ga, gb) (es.take j)
        have htl : (es.take j).length = j := by rw [List.length_take]; omega
        rw [htl] at hKl
        have HMT := Lib.hid hmt
        have HCT := Lib.hid hct
        have HREN := Lib.hid hren
        clear hmt hct hren htl
        generalize hK : madeL (ga, gb) (es.take j) = K at *
        generalize hC : (es.take j).countP (fun e => eqEB e (ga, gb)) = C at *
        clear hK hC
        go_wp2_with fail
        go_region
        obtain ⟨W1, hW1⟩ : ∃ W1, W1 = (wr.alloc (.cells #[.int .i64 ex, .int .i64 ey] 3)).drew := ⟨_, rfl⟩
        have b1 : Below wr.heap.size wr W1 := by rw [hW1]; exact ((Below.refl _ _).alloc (Nat.le_refl _) _).drew
        have hs1 : wr.heap.size < W1.heap.size := by rw [hW1]; simp [World.drew]
        have T1 : Two W1 (B1 + 2) wr.heap.size ex ey := by
          rw [hW1]; exact (Two.box wr ex ey (by omega)).below ((Below.refl (wr.heap.size + 1) _).drew) (by omega)
        have M1 := M.step b1 (by omega)
        have OW1 : OwnE W1 (B1 + 2) (.slice A' K.length c') K := OwnE.below OW b1 (fun k hk => OwnE.lt OW k hk)
        have hown : ∀ k, (Value.slice A' K.length c').ownBlock = some k → k < wr.heap.size := fun k hk => OwnE.lt OW k hk
        rw [← hW1]
        clear hW1 b1 L r0 r1 q0 q1 x0 x1 y0 y1 y2 c0 c1 s1 g1 g2 M OW
        have nbo : B1 + 1 < wr.heap.size := o2
        generalize wr.heap.size = nb at *
        obtain ⟨rx, hrrx⟩ : ∃ rx, renI (ga, gb) ex = rx := ⟨_, rfl⟩
        obtain ⟨ry, hrry⟩ : ∃ ry, renI (ga, gb) ey = ry := ⟨_, rfl⟩
        have hmm : mmE (ga, gb) (ex, ey) = (if ry < rx then ry else rx, if rx < ry then ry else rx) := by rw [← hrrx, ← hrry]; rfl
        rw [hmm] at HMT
        simp only [hrrx, hrry] at HREN
        clear hmm
        go_wp2_with fail
        go_loopw [12] (fun t wr' => ∃ i : Nat, i ≤ 2 ∧ t = .int .i64 (i : Nat) ∧ (i = 0 ∧ Two wr' (B1 + 2) nb ex ey ∨ (i = 1 ∧ Two wr' (B1 + 2) nb rx ey ∨ i = 2 ∧ Two wr' (B1 + 2) nb rx ry)) ∧ Below nb W1 wr') (fun t _ => 2 - (intOf t).toNat)
        case atStart => exact ⟨0, by omega, rfl, .inl ⟨rfl, T1⟩, Below.refl _ _⟩
        case round =>
          clear T1
          obtain ⟨i, hi, rfl, hT, BW⟩ := hrel
          have M2 := M1.step BW (by omega)
          obtain ⟨L, r0, r1, q0, q1, x0, x1, y0, y1, y2, o1, o2⟩ := id M2
          obtain ⟨_, _, c0, c1, s1⟩ := id L
          rcases hT with ⟨rfl, T⟩ | ⟨rfl, T⟩ | ⟨rfl, T⟩
          · have TD : ∀ m, Two (World.drewN _ m) (B1 + 2) nb ex ey := fun m => T.below (belowN (Below.refl (nb + 1) _) m) (by omega)
            clear hi
            by_cases e1 : ex = gb
            · have HR : Hid (rx = ga) := by unfold Hid; rw [← hrrx]; unfold renI; simp [e1]
              have cv := T.c0
              have fv := T.frozen 0
              clear hrrx
              subst e1
              go_wp2_with fail
              go_quiet (fail)
              go_wp2_with fail
              go_roundw
              case rel => exact ⟨1, by omega, by go_num, .inr (.inl ⟨rfl, by rw [HR.out]; exact (TD _).s0 ga⟩), (belowN BW _).setCell (by simp) _⟩
              case measure => simp [intOf]
            · by_cases e2 : gb < ex
              · have HR : Hid (rx = ex - 1) := by unfold Hid; rw [← hrrx]; unfold renI; simp [e1, e2]
                have cv := T.c0
                have fv := T.frozen 0
                clear hrrx
                go_wp2_with fail
                go_quiet (fail)
                go_wp2_with fail
                go_quiet (fail)
                go_wp2_with fail
                go_roundw
                case rel => exact ⟨1, by omega, by go_num, .inr (.inl ⟨rfl, by rw [HR.out]; exact (TD _).s0 (ex - 1)⟩), (belowN BW _).setCell (by simp) _⟩
                case measure => simp [intOf]
              · have HR : Hid (rx = ex) := by unfold Hid; rw [← hrrx]; unfold renI; simp [e1, e2]
                have cv := T.c0
                have fv := T.frozen 0
                clear hrrx
                go_wp2_with fail
                go_quiet (fail)
                go_wp2_with fail
                go_quiet (fail)
                go_wp2_with fail
                go_roundw
                case rel => exact ⟨1, by omega, by go_num, .inr (.inl ⟨rfl, by rw [HR.out]; exact TD _⟩), belowN BW _⟩
                case measure => simp [intOf]
          · have TD : ∀ m, Two (World.drewN _ m) (B1 + 2) nb rx ey := fun m => T.below (belowN (Below.refl (nb + 1) _) m) (by omega)
            clear hi
            by_cases e1 : ey = gb
            · have HR : Hid (ry = ga) := by unfold Hid; rw [← hrry]; unfold renI; simp [e1]
              have cv := T.c1
              have fv := T.frozen 1
              clear hrry
              subst e1
              go_wp2_with fail
              go_quiet (fail)
              go_wp2_with fail
              go_roundw
              case rel => exact ⟨2, by omega, by go_num, .inr (.inr ⟨rfl, by rw [HR.out]; exact (TD _).s1 ga⟩), (belowN BW _).setCell (by simp) _⟩
              case measure => simp [intOf]
            · by_cases e2 : gb < ey
              · have HR : Hid (ry = ey - 1) := by unfold Hid; rw [← hrry]; unfold renI; simp [e1, e2]
                have cv := T.c1
                have fv := T.frozen 1
                clear hrry
                go_wp2_with fail
                go_quiet (fail)
                go_wp2_with fail
                go_quiet (fail)
                go_wp2_with fail
                go_roundw
                case rel => exact ⟨2, by omega, by go_num, .inr (.inr ⟨rfl, by rw [HR.out]; exact (TD _).s1 (ey - 1)⟩), (belowN BW _).setCell (by simp) _⟩
                case measure => simp [intOf]
              · have HR : Hid (ry = ey) := by unfold Hid; rw [← hrry]; unfold renI; simp [e1, e2]
                have cv := T.c1
                have fv := T.frozen 1
                clear hrry
                go_wp2_with fail
                go_quiet (fail)
                go_wp2_with fail
                go_quiet (fail)
                go_wp2_with fail
                go_roundw
                case rel => exact ⟨2, by omega, by go_num, .inr (.inr ⟨rfl, by rw [HR.out]; exact TD _⟩), belowN BW _⟩
                case measure => simp [intOf]
          · have OWD : ∀ m, OwnE (World.drewN _ m) (B1 + 2) (.slice A' K.length c') K := fun m => OwnE.below OW1 (belowN BW m) hown
            have MD : ∀ m, MadeOut w (World.drewN _ m) n (some ⟨b, off, none⟩) cap es B1 ga gb (.slice A' K.length c') := fun m => M1.step (belowN BW m) (by omega)
            have cv0 := T.c0
            have cv1 := T.c1
            by_cases hE : (ex, ey) = (ga, gb)
            · have hxy := HREN.out.2 hE
              have hmt' := Lib.hid (HMT.out.trans (if_pos (by simp [eqEB, hE])))
              have hct' : Hid ((es.take (j + 1)).countP (fun e => eqEB e (ga, gb)) = C + 1) := by rw [Hid, HCT.out, if_pos (by simp [eqEB, hE])]
              clear hE hrrx hrry
              subst hxy
              go_wp2_with fail
              go_quiet (fail)
              go_wp2_with fail
              go_roundw
              case rel => exact ⟨j + 1, A', c', by omega, by go_num, by rw [hct'.out]; go_num, by rw [hmt'.out]; exact OWD _, by rw [hmt'.out]; exact MD _⟩
              case measure => simp [intOf]; omega
            · have hxy : ¬ rx = ry := fun e => hE (HREN.out.1 e)
              have hmt' := Lib.hid (HMT.out.trans (if_neg (by simpa [eqEB] using hE)))
              have hct' : Hid ((es.take (j + 1)).countP (fun e => eqEB e (ga, gb)) = C) := by rw [Hid, HCT.out, if_neg (by simpa [eqEB] using hE), Nat.add_zero]
              clear hE hrrx hrry
              go_wp2_with fail
              go_quiet (fail)
              go_wp2_with fail
              obtain ⟨p, hp⟩ : ∃ p, (if ry < rx then ry else rx) = p := ⟨_, rfl⟩
              obtain ⟨q, hq⟩ : ∃ q, (if rx < ry then ry else rx) = q := ⟨_, rfl⟩
              rw [hp, hq] at hmt'
              have MU := MD nq
              have OU := OWD nq
              have TU : Two (wr.drewN nq) (B1 + 2) nb rx ry := T.below (belowN (Below.refl (nb + 1) _) nq) (by omega)
              clear MD OWD T M2 BW L r0 r1 q0 q1 x0 x1 y0 y1 y2 o1 o2 c0 c1 s1 cv0 cv1 M1 OW1
              generalize wr.drewN nq = u at *
              have MUD := MU.step (Below.refl (u.heap.size) u).drew MU.o2
              have TUD : Two u.drew (B1 + 2) nb rx ry := TU.below ((Below.refl (nb + 1) u).drew) (by omega)
              have hnbu : nb < u.heap.size := (World.ownsRow.lt TU nb rfl).2
              have OUD : OwnE u.drew (B1 + 2) (.slice A' K.length c') K := OwnE.below OU ((Below.refl u.heap.size u).drew) (fun k hk => OwnE.lt OU k hk)
              have HO := Lib.hid OUD
              obtain ⟨L, r0, r1, q0, q1, x0, x1, y0, y1, y2, o1, o2⟩ := id MU
              have cv0 := TU.c0
              have cv1 := TU.c1
              have dv0 := TUD.c0
              have dv1 := TUD.c1
              have dy1 := MUD.y1
              have hne1 : B1 + 1 ≠ nb := by omega
              clear TU OU OUD
              generalize hKK : K = KK at *
              clear hKK K
              refine wp_region_held_drew (S := fun w' => w'.cell? ⟨nb, 0, none⟩ = some (.int .i64 rx) ∧ w'.cell? ⟨nb, 1, none⟩ = some (.int .i64 ry)) (by kernel_rfl) ⟨dv0, dv1⟩ (fun hHeld => ?_)
              refine wpAnyH_take (i := 0) (oi := _) (v := ?_) rfl (by kernel_rfl) (by kernel_rfl) (by kernel_rfl) (fun _ _ _ h => h) (Or.inl ⟨by rfl, ?_⟩) (by assumption) ?_
              rotate_left
              · (intro w hSw; (try dsimp only at hSw); go_simp; (first | done | with_reducible rfl))
              (try simp only [Act.put, List.setIfInBounds_toArray])
              refine wpAnyH_take (i := 2) (oi := _) (v := ?_) rfl (by kernel_rfl) (by kernel_rfl) (by kernel_rfl) (fun _ _ _ h => h) (Or.inl ⟨by rfl, ?_⟩) (by assumption) ?_
              rotate_left
              · (intro w hSw; (try dsimp only at hSw); go_simp; (first | done | with_reducible rfl))
              (try simp only [Act.put])
              refine wpAnyH_take (i := 3) (oi := _) (v := ?_) rfl (by kernel_rfl) (by kernel_rfl) (by kernel_rfl) (fun _ _ _ h => h) (Or.inl ⟨by rfl, ?_⟩) (by assumption) ?_
              rotate_left
              · (intro w hSw; (try dsimp only at hSw); go_simp; (first | done | with_reducible rfl))
              (try simp only [Act.put])
              refine wpAnyH_take (i := 4) (oi := _) (v := ?_) rfl (by kernel_rfl) (by kernel_rfl) (by kernel_rfl) (fun _ _ _ h => h) (Or.inl ⟨by rfl, ?_⟩) (by assumption) ?_
              rotate_left
              · (intro w hSw; (try dsimp only at hSw); go_simp; (first | done | with_reducible rfl))
              (try simp only [Act.put])
              refine wpAnyH_take (i := 5) (oi := _) (v := ?_) rfl (by kernel_rfl) (by kernel_rfl) (by kernel_rfl) (fun _ _ _ h => h) (Or.inl ⟨by rfl, ?_⟩) (by assumption) ?_
              rotate_left
              · (intro w hSw; (try dsimp only at hSw); go_simp; (first | done | with_reducible rfl))
              (try simp only [Act.put])
              refine wpAnyH_take (i := 6) (oi := _) (v := ?_) rfl (by kernel_rfl) (by kernel_rfl) (by kernel_rfl) (fun _ _ _ h => h) (Or.inl ⟨by rfl, ?_⟩) (by assumption) ?_
              rotate_left
              · (intro w hSw; (try dsimp only at hSw); go_simp; (first | done | with_reducible rfl))
              (try simp only [Act.put])
              refine wpAnyH_take (i := 7) (oi := _) (v := ?_) rfl (by kernel_rfl) (by kernel_rfl) (by kernel_rfl) (fun _ _ _ h => h) (Or.inl ⟨by rfl, ?_⟩) (by assumption) ?_
              rotate_left
              · (intro w hSw; (try dsimp only at hSw); go_simp; (first | done | with_reducible rfl))
              (try simp only [Act.put])
              refine wpAnyH_take (i := 9) (oi := _) (v := ?_) rfl (by kernel_rfl) (by kernel_rfl) (by kernel_rfl) (fun _ _ _ h => h) (Or.inl ⟨by rfl, ?_⟩) (by assumption) ?_
              rotate_left
              · (intro w hSw; (try dsimp only at hSw); go_simp; (first | done | with_reducible rfl))
              (try simp only [Act.put])
              refine wpAnyH_take (i := 10) (oi := _) (v := ?_) rfl (by kernel_rfl) (by kernel_rfl) (by kernel_rfl) (fun _ _ _ h => h) (Or.inl ⟨by rfl, ?_⟩) (by assumption) ?_
              rotate_left
              · (intro w hSw; (try dsimp only at hSw); go_simp; (first | done | with_reducible rfl))
              (try simp only [Act.put])
              refine wpAnyH_take (i := 11) (oi := _) (v := ?_) rfl (by kernel_rfl) (by kernel_rfl) (by kernel_rfl) (fun _ _ _ h => h) (Or.inl ⟨by rfl, ?_⟩) (by assumption) ?_
              rotate_left
              · (intro w hSw; (try dsimp only at hSw); go_simp; (first | done | with_reducible rfl))
              (try simp only [Act.put])
              refine wpAnyH_take (i := 12) (oi := _) (v := ?_) rfl (by kernel_rfl) (by kernel_rfl) (by kernel_rfl) (fun _ _ _ h => h) (Or.inl ⟨by rfl, ?_⟩) (by assumption) ?_
              rotate_left
              · (intro w hSw; (try dsimp only at hSw); go_simp; (first | done | with_reducible rfl))
              (try simp only [Act.put])
              refine wpAnyH_take (i := 13) (oi := _) (v := ?_) rfl (by kernel_rfl) (by kernel_rfl) (by kernel_rfl) (fun _ _ _ h => h) (Or.inl ⟨by rfl, ?_⟩) (by assumption) ?_
              rotate_left
              · (intro w hSw; (try dsimp only at hSw); go_simp; (first | done | with_reducible rfl))
              (try simp only [Act.put])
              refine wpAnyH_take (i := 14) (oi := _) (v := ?_) rfl (by kernel_rfl) (by kernel_rfl) (by kernel_rfl) (fun _ _ _ h => h) (Or.inl ⟨by rfl, ?_⟩) (by assumption) ?_
              rotate_left
              · (intro w hSw; (try dsimp only at hSw); go_simp; (first | done | with_reducible rfl))
              (try simp only [Act.put])
              refine wpAnyH_take (i := 8) (oi := _) (v := ?_) rfl (by kernel_rfl) (by kernel_rfl) (by kernel_rfl) (fun _ _ _ h => h) (Or.inl ⟨by rfl, ?_⟩) (by assumption) ?_
              rotate_left
              · (intro w hSw; (try dsimp only at hSw); go_simp; (first | done | with_reducible rfl))
              (try simp only [Act.put])
              refine wpAnyH_take (i := 15) (oi := _) (v := ?_) rfl (by kernel_rfl) (by kernel_rfl) (by kernel_rfl) (fun _ _ _ h => h) (Or.inl ⟨by rfl, ?_⟩) (by assumption) ?_
              rotate_left
              · (intro w hSw; (try dsimp only at hSw); go_simp; (first | done | with_reducible rfl))
              (try simp only [Act.put])
              refine wpAnyH_take (i := 16) (oi := _) (v := ?_) rfl (by kernel_rfl) (by kernel_rfl) (by kernel_rfl) (fun _ _ _ h => h) (Or.inl ⟨by rfl, ?_⟩) (by assumption) ?_
              rotate_left
              · (intro w hSw; (try dsimp only at hSw); go_simp; (first | done | with_reducible rfl))
              (try simp only [Act.put])
              refine wpAnyH_ready (rs := [1, 17]) (by kernel_rfl) (by simp) ?_
              refine AllReadyH.cons (o := _) rfl (fun K hK => ?_) (AllReadyH.cons (o := _) rfl (fun K hK => ?_) AllReadyH.nil)
              · go_simp
                refine hK.out _ _ ?_ (fun hHeld => ?_)
                · (first | exact ⟨by assumption, by assumption⟩ | ((try dsimp only); go_keep))
                clear hK K
                (try simp only [Act.put, List.setIfInBounds_toArray, List.set_cons_zero, List.set_cons_succ])
                refine wpAnyH_ready (rs := [17]) (by kernel_rfl) (by simp) ?_
                refine AllReadyH.cons (o := _) rfl (fun K hK => ?_) AllReadyH.nil
                go_simp
                refine hK.out _ _ ?_ (fun hHeld => ?_)
                · (first | exact ⟨by assumption, by assumption⟩ | ((try dsimp only); go_keep))
                clear hK K
                (try simp only [Act.put, List.setIfInBounds_toArray, List.set_cons_zero, List.set_cons_succ])
                refine wpAnyH_ready (rs := [18]) (by kernel_rfl) (by simp) ?_
                refine AllReadyH.cons (o := _) rfl (fun K hK => ?_) AllReadyH.nil
                refine step_append_lies _ (by rfl) (.tmp 101) (.tmp 117) 23 (by rfl) (B1 + 2) 33 i0 _ 2 16 Try.underlying23 hi0 hz0 hz1 hz2 rfl (by omega) (.slice A' KK.length c') KK.length (flat KK) (by simp [Act.eval]) (World.ownsRow.alloc HO.out _) ⟨u.heap.size, 0, none⟩ 1 1 [.int .i64 p, .int .i64 q] (by simp [Act.eval]) (by rfl) (World.news_of_block (cs := #[.int .i64 p, .int .i64 q]) (t := 33) (fr := (0, 0)) (heap_alloc_new _ _)) (by simp [Value.oneCell']) (by omega) (by simp [maxLen]; omega) (by omega) (by simp; omega) _ rfl ?_
                intro gg cc w5 hown5 hgrow hat hlt5
                have hbel : Below (B1 + 2) u.drew w5 := ((Below.refl (B1 + 2) u.drew).alloc (show B1 + 2 ≤ u.heap.size by omega) _).grown hgrow (by rw [World.size_alloc]; exact (show B1 + 2 ≤ u.heap.size + 1 by omega)) (fun j hj => (World.ownsRow.lt HO.out j hj).1)
                have M5 := MUD.step hbel (by omega)
                have z1 := M5.y1
                have z2 := M5.y2
                have hbn : w5.heap[nb]? = u.drew.heap[nb]? := (hgrow.block nb (by simp; omega) (fun e => by have := hown nb e.symm; omega)).trans (((Below.refl (nb + 1) u.drew).alloc (show nb + 1 ≤ u.heap.size by omega) _).block nb (by omega))
                have z3 := (World.cell?_of_block (a := ⟨nb, 0, none⟩) hbn).trans dv0
                have z4 := (World.cell?_of_block (a := ⟨nb, 1, none⟩) hbn).trans dv1
                refine hK.out _ _ ?_ (fun hHeld => ?_)
                · (first | exact ⟨by assumption, by assumption⟩ | ((try dsimp only); go_keep))
                clear hK K
                (try simp only [Act.put, List.setIfInBounds_toArray])
                refine wpAnyH_take (i := 19) (oi := _) (v := ?_) rfl (by kernel_rfl) (by kernel_rfl) (by kernel_rfl) (fun _ _ _ h => h) (Or.inl ⟨by rfl, ?_⟩) (by assumption) ?_
                rotate_left
                · (intro w hSw; (try dsimp only at hSw); go_simp; (first | done | with_reducible rfl))
                (try simp only [Act.put])
                refine wpAnyH_ready (rs := [20]) (by kernel_rfl) (by simp) ?_
                refine AllReadyH.cons (o := _) rfl (fun K hK => ?_) AllReadyH.nil
                go_simp
                refine hK.out _ _ ?_ (fun hHeld => ?_)
                · (first | exact ⟨by assumption, by assumption⟩ | ((try dsimp only); go_keep))
                clear hK K
                (try simp only [Act.put, List.setIfInBounds_toArray, List.set_cons_zero, List.set_cons_succ])
                refine wpAnyH_done (by kernel_rfl) ?_ _
                have MZ := M5.stored (.slice (some ⟨gg, 0, none⟩) (KK.length + 1) cc)
                have O5 : OwnE w5 (B1 + 2) (.slice (some ⟨gg, 0, none⟩) (madeL (ga, gb) (es.take (j + 1))).length cc) (madeL (ga, gb) (es.take (j + 1))) := by
                  rw [hmt'.out, List.length_append]; unfold OwnE; rw [flat_append, List.length_append]; exact hown5
                have hgb : B1 + 2 ≤ gg := OwnE.ge O5
                have O6 : OwnE (w5.setCell ⟨B1 + 1, 1, none⟩ (.slice (some ⟨gg, 0, none⟩) (KK.length + 1) cc)) (B1 + 2) (.slice (some ⟨gg, 0, none⟩) (madeL (ga, gb) (es.take (j + 1))).length cc) (madeL (ga, gb) (es.take (j + 1))) := OwnE.far O5 (fun k hk => by have := (World.ownsRow.lt O5 k hk).1; show k ≠ B1 + 1; omega) _
                go_wp2_with fail
                go_roundw
                case rel => exact ⟨j + 1, some ⟨gg, 0, none⟩, cc, by omega, by go_num, by rw [hct'.out], O6, by rw [hmt'.out, List.length_append]; exact MZ⟩
                case measure => simp [intOf]; omega
              · go_simp
                refine hK.out _ _ ?_ (fun hHeld => ?_)
                · (first | exact ⟨by assumption, by assumption⟩ | ((try dsimp only); go_keep))
                clear hK K
                (try simp only [Act.put, List.setIfInBounds_toArray, List.set_cons_zero, List.set_cons_succ])
                refine wpAnyH_ready (rs := [1]) (by kernel_rfl) (by simp) ?_
                refine AllReadyH.cons (o := _) rfl (fun K hK => ?_) AllReadyH.nil
                go_simp
                refine hK.out _ _ ?_ (fun hHeld => ?_)
                · (first | exact ⟨by assumption, by assumption⟩ | ((try dsimp only); go_keep))
                clear hK K
                (try simp only [Act.put, List.setIfInBounds_toArray, List.set_cons_zero, List.set_cons_succ])
                refine wpAnyH_ready (rs := [18]) (by kernel_rfl) (by simp) ?_
                refine AllReadyH.cons (o := _) rfl (fun K hK => ?_) AllReadyH.nil
                refine step_append_lies _ (by rfl) (.tmp 101) (.tmp 117) 23 (by rfl) (B1 + 2) 33 i0 _ 2 16 Try.underlying23 hi0 hz0 hz1 hz2 rfl (by omega) (.slice A' KK.length c') KK.length (flat KK) (by simp [Act.eval]) (World.ownsRow.alloc HO.out _) ⟨u.heap.size, 0, none⟩ 1 1 [.int .i64 p, .int .i64 q] (by simp [Act.eval]) (by rfl) (World.news_of_block (cs := #[.int .i64 p, .int .i64 q]) (t := 33) (fr := (0, 0)) (heap_alloc_new _ _)) (by simp [Value.oneCell']) (by omega) (by simp [maxLen]; omega) (by omega) (by simp; omega) _ rfl ?_
                intro gg cc w5 hown5 hgrow hat hlt5
                have hbel : Below (B1 + 2) u.drew w5 := ((Below.refl (B1 + 2) u.drew).alloc (show B1 + 2 ≤ u.heap.size by omega) _).grown hgrow (by rw [World.size_alloc]; exact (show B1 + 2 ≤ u.heap.size + 1 by omega)) (fun j hj => (World.ownsRow.lt HO.out j hj).1)
                have M5 := MUD.step hbel (by omega)
                have z1 := M5.y1
                have z2 := M5.y2
                have hbn : w5.heap[nb]? = u.drew.heap[nb]? := (hgrow.block nb (by simp; omega) (fun e => by have := hown nb e.symm; omega)).trans (((Below.refl (nb + 1) u.drew).alloc (show nb + 1 ≤ u.heap.size by omega) _).block nb (by omega))
                have z3 := (World.cell?_of_block (a := ⟨nb, 0, none⟩) hbn).trans dv0
                have z4 := (World.cell?_of_block (a := ⟨nb, 1, none⟩) hbn).trans dv1
                refine hK.out _ _ ?_ (fun hHeld => ?_)
                · (first | exact ⟨by assumption, by assumption⟩ | ((try dsimp only); go_keep))
                clear hK K
                (try simp only [Act.put, List.setIfInBounds_toArray])
                refine wpAnyH_take (i := 19) (oi := _) (v := ?_) rfl (by kernel_rfl) (by kernel_rfl) (by kernel_rfl) (fun _ _ _ h => h) (Or.inl ⟨by rfl, ?_⟩) (by assumption) ?_
                rotate_left
                · (intro w hSw; (try dsimp only at hSw); go_simp; (first | done | with_reducible rfl))
                (try simp only [Act.put])
                refine wpAnyH_ready (rs := [20]) (by kernel_rfl) (by simp) ?_
                refine AllReadyH.cons (o := _) rfl (fun K hK => ?_) AllReadyH.nil
                go_simp
                refine hK.out _ _ ?_ (fun hHeld => ?_)
                · (first | exact ⟨by assumption, by assumption⟩ | ((try dsimp only); go_keep))
                clear hK K
                (try simp only [Act.put, List.setIfInBounds_toArray, List.set_cons_zero, List.set_cons_succ])
                refine wpAnyH_done (by kernel_rfl) ?_ _
                have MZ := M5.stored (.slice (some ⟨gg, 0, none⟩) (KK.length + 1) cc)
                have O5 : OwnE w5 (B1 + 2) (.slice (some ⟨gg, 0, none⟩) (madeL (ga, gb) (es.take (j + 1))).length cc) (madeL (ga, gb) (es.take (j + 1))) := by
                  rw [hmt'.out, List.length_append]; unfold OwnE; rw [flat_append, List.length_append]; exact hown5
                have hgb : B1 + 2 ≤ gg := OwnE.ge O5
                have O6 : OwnE (w5.setCell ⟨B1 + 1, 1, none⟩ (.slice (some ⟨gg, 0, none⟩) (KK.length + 1) cc)) (B1 + 2) (.slice (some ⟨gg, 0, none⟩) (madeL (ga, gb) (es.take (j + 1))).length cc) (madeL (ga, gb) (es.take (j + 1))) := OwnE.far O5 (fun k hk => by have := (World.ownsRow.lt O5 k hk).1; show k ≠ B1 + 1; omega) _
                go_wp2_with fail
                go_roundw
                case rel => exact ⟨j + 1, some ⟨gg, 0, none⟩, cc, by omega, by go_num, by rw [hct'.out], O6, by rw [hmt'.out, List.length_append]; exact MZ⟩
                case measure => simp [intOf]; omega
      · obtain rfl : j = es.length := by omega
        rw [List.take_length] at OW M y1 ⊢
        have BB := L.below
        have hcl : es.countP (fun e => eqEB e (ga, gb)) ≤ es.length := List.countP_le_length
        have wl1 : IntKind.i64.wrap (((es.countP (fun e => eqEB e (ga, gb)) : Nat) : Int) - 1) = ((es.countP (fun e => eqEB e (ga, gb)) : Nat) : Int) - 1 := IntWalk.i64_in _ (by omega)
        clear M
        generalize hK : madeL (ga, gb) es = K at *
        generalize hC : es.countP (fun e => eqEB e (ga, gb)) = C at *
        clear hK hC
        go_wp2_with fail
        refine bodyPost_ret (v := .tuple #[.agg #[.int .i64 (n - 1), .slice A' K.length c'], .int .i64 ((C : Int) - 1), .bool true]) (by simp [results, Try.results17, go_sem, *]) rfl ?_
        rw [HN.out, HE.out, HL.out, HOK.out]
        have OW' : OwnE wr w.heap.size (.slice A' K.length c') K := OwnE.more OW (by omega)
        have hfar : ∀ k, (Value.slice A' K.length c').ownBlock = some k → k ≠ w.heap.size + 1 := fun k hk => by have := (World.ownsRow.lt OW k hk).1; omega
        exact ⟨A', c', rfl, (OW'.far hfar _).far hfar _, (BB.setCell (by simp) _).setCell (by simp) _⟩
  · exact specMadeOne_not n a A cap es w hes hl hok
end Go.Proofs.Ytonofgpghfolpaa
