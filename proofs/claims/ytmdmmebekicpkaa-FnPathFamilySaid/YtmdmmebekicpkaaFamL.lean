/- Families in memory: sz, to, eq, mark, held of the laws. -/
import Derived.Test.YtmdmmebekicpkaaObj
namespace Go.Proofs.Ytmdmmebekicpkaa
open Go.RowKit
set_option maxRecDepth 100000

theorem szIntS_any (A : Option Addr) (c n : Nat) (m : Int) (w : World) (hn : n ≤ 9223372036854775807) (h0 : 0 ≤ m) (h1 : m ≤ 1048576) :
    Calls Try.prog 80 #[.slice A n c, .int .i64 m] w fun e w' => e = .returned (.int .i64 (if m < n then -1 else m - n)) ∧ Below w.heap.size w w' := by
  by_cases hlt : m < n
  · go_enter Try.func80, Try.ntmps80
    go_wp2
    go_returns
    exact ⟨rfl, by go_grown⟩
  · go_enter Try.func80, Try.ntmps80
    go_wp2
    go_returns
    exact ⟨rfl, by go_grown⟩
theorem szFamily_any (v : Int) (A : Option Addr) (c n : Nat) (m : Int) (w : World) (hn : n ≤ 9223372036854775807) (h0 : 0 ≤ m) (h1 : m ≤ 1048576) :
    Calls Try.prog 34 #[.agg #[.int .i64 v, .slice A n c], .int .i64 m] w fun e w' => e = .returned (.int .i64 (if m < n then -1 else m - n)) ∧ Below w.heap.size w w' := by
  have hbw : Hid (Below w.heap.size w (w.alloc (.cells #[.int .i64 v, .slice A n c] 41))) := Lib.hid (by go_grown)
  by_cases hlt : m < n
  · go_enter Try.func34, Try.ntmps34
    go_wp2_with (go_at_call 80; refine (szIntS_any _ _ _ _ _ hn h0 h1).mono ?_; rw [if_pos hlt]; rintro e1 w2 ⟨rfl, hb⟩)
    go_returns
    exact ⟨rfl, hbw.out.trans (hb.mono (by simp))⟩
  · go_enter Try.func34, Try.ntmps34
    go_wp2_with (go_at_call 80; refine (szIntS_any _ _ _ _ _ hn h0 h1).mono ?_; rw [if_neg hlt]; rintro e1 w2 ⟨rfl, hb⟩)
    go_returns
    exact ⟨rfl, hbw.out.trans (hb.mono (by simp))⟩
theorem szFamily_big (v : Int) (A : Option Addr) (c n : Nat) (w : World) (hn : n ≤ 9223372036854775807) (h : 1048576 < n) :
    Calls Try.prog 34 #[.agg #[.int .i64 v, .slice A n c], .int .i64 1048576] w fun e w' => e = .returned (.int .i64 (-1)) ∧ Below w.heap.size w w' :=
  (szFamily_any v A c n 1048576 w hn (by omega) (by omega)).mono fun _ _ ⟨he, hb⟩ => ⟨by rw [he, if_pos (by omega)], hb⟩
theorem szFamily_small (v : Int) (A : Option Addr) (c n : Nat) (w : World) (h : n ≤ 1048576) :
    Calls Try.prog 34 #[.agg #[.int .i64 v, .slice A n c], .int .i64 1048576] w fun e w' => e = .returned (.int .i64 (1048576 - n)) ∧ Below w.heap.size w w' :=
  (szFamily_any v A c n 1048576 w (by omega) (by omega) (by omega)).mono fun _ _ ⟨he, hb⟩ => ⟨by rw [he, if_neg (by omega)], hb⟩

/-- A family that has been made: its row of its own. -/
def MadeFam (w : World) (t : Int) (xs : List Int) (e : Ending) (w' : World) : Prop :=
  ∃ A c, e = .returned (.agg #[.int .i64 t, .slice A xs.length c]) ∧ OwnI w' w.heap.size (.slice A xs.length c) xs ∧ Below w.heap.size w w'
theorem toFamily_any (t : Int) (A : Option Addr) (c : Nat) (xs : List Int) (w : World) (hxs : IntsIn w w.heap.size A xs) (hl : xs.length ≤ 1048576) :
    Calls Try.prog 35 #[.agg #[.int .i64 t, .slice A xs.length c]] w (MadeFam w t xs) := by
  have hes' := hxs.below (w' := ((w.alloc (.cells #[.int .i64 t, .slice A xs.length c] 41)).alloc (.cells #[.int .i64 0, .slice none 0 0] 27)).alloc (.cells #[.int .i64 t, .slice none 0 0] 27)) (by go_grown) (Nat.le_refl _)
  go_enter Try.func35, Try.ntmps35
  go_wp2_with (go_at_call 50; refine (toIntS_any _ _ _ _ (hes'.more (by simp; omega)) hl).mono ?_; rintro e1 w2 ⟨A2, c2, rfl, hown, hb⟩; have hc := oldCell hb; have hf := oldMark hb; have hz := hb.size)
  have hge := hown.ge
  simp only [World.size_alloc] at hge
  refine bodyPost_ret (v := .agg #[.int .i64 t, .slice A2 xs.length c2]) (by simp [results, Try.results35, go_sem, hc]) rfl ?_
  refine ⟨A2, c2, rfl, OwnI.far (OwnI.far (OwnI.far (hown.more (by simp; omega)) ?_ _) ?_ _) ?_ _, ?_⟩
  · intro k hk; have := hge k hk; simp; omega
  · intro k hk; have := hge k hk; simp; omega
  · intro k hk; have := hge k hk; simp; omega
  · refine Below.setCell (Below.setCell (Below.setCell (Below.trans ?_ (hb.mono (by simp; omega))) (by simp; omega) _) (by simp) _) (by simp) _
    go_grown

theorem eqFamily_self (t : Int) (A B : Option Addr) (c d m : Nat) (xs : List Int) (w : World) (hxs : IntsIn w w.heap.size A xs) (hys : IntsIn w w.heap.size B xs) (hm : xs.length = m) (hl : m ≤ 1048576) :
    Calls Try.prog 36 #[.agg #[.int .i64 t, .slice A m c], .agg #[.int .i64 t, .slice B m d]] w fun e w' => e = .returned (.bool true) ∧ Below w.heap.size w w' := by
  have hes' := ((hxs.alloc (Nat.le_refl _) (.cells #[.int .i64 t, .slice A m c] 27)).alloc (by simp) (.cells #[.int .i64 t, .slice B m d] 27))
  have hfs' := ((hys.alloc (Nat.le_refl _) (.cells #[.int .i64 t, .slice A m c] 27)).alloc (by simp) (.cells #[.int .i64 t, .slice B m d] 27))
  have hbw : Below w.heap.size w ((w.alloc (.cells #[.int .i64 t, .slice A m c] 27)).alloc (.cells #[.int .i64 t, .slice B m d] 27)) := by go_grown
  have H := Lib.hid hbw
  have HM := Lib.hid hm
  clear hbw hm
  go_enter Try.func36, Try.ntmps36
  go_wp2_with (go_at_call 52; refine (eqIntS_self _ _ _ _ _ _ _ (hes'.more (by simp; omega)) (hfs'.more (by simp; omega)) HM.out hl).mono ?_; rintro e1 w1 ⟨rfl, hb1⟩)
  go_returns
  exact ⟨rfl, H.out.trans (hb1.mono (by simp; omega))⟩

theorem markFamily_any (t : Int) (A : Option Addr) (c base m : Nat) (xs : List Int) (k : Int) (w : World) (own : OwnI w base (.slice A m c) xs) (hl : m ≤ 1048576) (k0 : 0 ≤ k) (k1 : k ≤ 4194304) :
    Calls Try.prog 37 #[.agg #[.int .i64 t, .slice A m c], .int .i64 k] w (MarkedI w base (.slice A m c) k m) := by
  have hbox := (Below.refl w.heap.size w).alloc (Nat.le_refl _) (.cells #[.int .i64 t, .slice A m c] 27)
  have own' := own.below hbox own.lt
  go_enter Try.func37, Try.ntmps37
  go_wp2_with fail
  refine (markIntS_any _ _ _ _ _ _ _ own' hl k0 k1).mono ?_
  rintro e1 w1 ⟨rfl, own1, hg1⟩
  go_wp2_with fail
  go_returns
  exact ⟨rfl, own1, ⟨hg1.os, hg1.tape, hg1.output, Nat.le_trans hbox.size hg1.size, fun i hi hne => (hg1.block i (by simp; omega) hne).trans (hbox.block i hi)⟩⟩
theorem heldFamily_any (t : Int) (A : Option Addr) (c m : Nat) (k : Int) (w : World) (hes : IntsIn w w.heap.size A (marksI k m)) (hl : m ≤ 1048576) (k0 : 0 ≤ k) (k1 : k ≤ 4194304) :
    Calls Try.prog 38 #[.agg #[.int .i64 t, .slice A m c], .int .i64 k] w fun e w' => e = .returned (.int .i64 (k + (m : Int))) ∧ Below w.heap.size w w' := by
  have hbox := (Below.refl w.heap.size w).alloc (Nat.le_refl _) (.cells #[.int .i64 t, .slice A m c] 27)
  have hes' := (hes.below hbox (Nat.le_refl _)).more hbox.size
  go_enter Try.func38, Try.ntmps38
  go_wp2_with fail
  refine (heldIntS_any _ _ _ _ _ hes' hl k0 k1).mono ?_
  rintro e1 w1 ⟨rfl, rfl⟩
  go_wp2_with fail
  go_returns
  exact ⟨rfl, hbox⟩
end Go.Proofs.Ytmdmmebekicpkaa
