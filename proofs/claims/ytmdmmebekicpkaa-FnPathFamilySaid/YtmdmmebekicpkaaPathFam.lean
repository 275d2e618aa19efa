/- PathFamily, of the program and of the reference. -/
import Derived.Test.YtmdmmebekicpkaaImpl8
import Derived.Test.YtmdmmebekicpkaaImpl4
import Derived.Test.YtmdmmebekicpkaaSpec4
import Derived.Test.YtmdmmebekicpkaaFamO
import Derived.Test.YtmdmmebekicpkaaImplCnt
import Derived.Test.YtmdmmebekicpkaaDrawT
import Derived.Test.YtmdmmebekicpkaaBytes
namespace Go.Proofs.Ytmdmmebekicpkaa
open Go.RowKit
set_option maxRecDepth 100000

/-- The net's box and the result's. -/
def NetFam (w u : World) (n : Int) (A : Option Addr) (cap : Nat) (es : List (Int × Int)) : Prop := ArgNet w u n A cap es ∧ BoxAt u (w.heap.size + 1)
section
variable {w u u' : World} {n : Int} {A : Option Addr} {cap : Nat} {es : List (Int × Int)}
theorem NetFam.next (h : NetFam w u n A cap es) (hb : Below u.heap.size u u') : NetFam w u' n A cap es := ⟨h.1.on _ hb, h.2.next hb⟩
theorem NetFam.drew (h : NetFam w u n A cap es) : NetFam w u.drew n A cap es := h.next ((Below.refl _ _).drew)
def NetCells (w u : World) (n : Int) (A : Option Addr) (cap : Nat) (es : List (Int × Int)) : Prop :=
  u.cell? ⟨w.heap.size, 0, none⟩ = some (.int .i64 n) ∧ u.cell? ⟨w.heap.size, 1, none⟩ = some (.slice A es.length cap) ∧ ArgNet w u n A cap es
theorem NetFam.cells (h : NetFam w u n A cap es) : NetCells w u n A cap es := ⟨h.1.c0, h.1.c1, h.1⟩
theorem NetFam.stored (h : NetFam w u n A cap es) (v v' : Value) : NetCells w ((u.setCell ⟨w.heap.size + 1, 0, none⟩ v).setCell ⟨w.heap.size + 1, 1, none⟩ v') n A cap es := by
  have L := h.1.step (((Below.refl (w.heap.size + 1) u).setCell (p := ⟨w.heap.size + 1, 0, none⟩) (by simp) v).setCell (p := ⟨w.heap.size + 1, 1, none⟩) (by simp) v') (by omega)
  exact ⟨L.c0, L.c1, L⟩
theorem NetFam.start (w : World) (n : Int) (A : Option Addr) (cap : Nat) (es : List (Int × Int)) (t t2 : TypeId) (hes : EdgesIn w w.heap.size A es) (ht : t2 = 27) :
    NetFam w ((w.alloc (.cells #[.int .i64 n, .slice A es.length cap] t)).alloc (.cells #[.int .i64 0, .slice none 0 0] t2)) n A cap es := by
  subst ht
  have hb := (Below.refl (w.heap.size + 1) (w.alloc (.cells #[.int .i64 n, .slice A es.length cap] t))).alloc (by simp) (.cells #[.int .i64 0, .slice none 0 0] 27)
  have B := BoxAt.start (w.alloc (.cells #[.int .i64 n, .slice A es.length cap] t)) 27
  rw [World.size_alloc] at B
  exact ⟨(ArgNet.start t hes).step hb (by omega), B⟩
end

theorem pf_wrong {n : Int} {es : List (Int × Int)} {a b : Int} (h : pfOk n es a b = false) : pfT n es a b = 0 ∧ pfL n es a b = [] := by
  unfold pfT pfL; rw [h]; exact ⟨rfl, rfl⟩

set_option maxHeartbeats 4000000 in
theorem pathFamily_any (n a b : Int) (A : Option Addr) (cap : Nat) (es : List (Int × Int)) (w : World) (hes : EdgesIn w w.heap.size A es) (hl : es.length ≤ 1048576) :
    Calls Try.prog 42 #[.agg #[.int .i64 n, .slice A es.length cap], .int .i64 a, .int .i64 b] w (GotFam w (pfT n es a b) (pfL n es a b) (pfOk n es a b)) := by
  have D0 := NetFam.start w n A cap es 53 27 hes rfl
  have HP : Hid (∀ u, NetFam w u n A cap es → Calls Try.prog 87 #[.agg #[.int .i64 n, .slice A es.length cap], .int .i64 a, .int .i64 b] u fun e w' => e = .returned (.bool (joinOkB n es a b)) ∧ Below u.heap.size u w') := fun u h => pairOk_any n a b A cap es u h.1.edges hl
  obtain ⟨⟨_, _, c0, c1, s0⟩, q0, q1, r0, r1, lt⟩ := id D0
  cases hj : joinOkB n es a b with
  | false =>
    have hO : pfOk n es a b = false := by unfold pfOk; rw [hj]; rfl
    rw [(pf_wrong hO).1, (pf_wrong hO).2, hO]
    rw [hj] at HP
    clear hO hj hes
    go_enter Try.func42, Try.ntmps42
    go_wp2_with fail
    refine (HP.out _ D0).mono ?_
    rintro e1 w1 ⟨rfl, hb1⟩
    have D1 := D0.next hb1
    clear c0 c1 s0 q0 q1 r0 r1 lt D0
    obtain ⟨⟨_, fb, c0, c1, s0⟩, q0, q1, r0, r1, lt⟩ := id D1
    go_wp2_with fail
    refine bodyPost_ret (v := .tuple #[.agg #[.int .i64 0, .slice none 0 0], .bool false]) (by simp [results, Try.results42, go_sem, *]) rfl ?_
    exact ⟨none, 0, rfl, OwnI.nil _ _, (fb.setCell (p := ⟨w.heap.size + 1, 0, none⟩) (by simp) _).setCell (p := ⟨w.heap.size + 1, 1, none⟩) (by simp) _⟩
  | true =>
    rw [hj] at HP
    by_cases h6 : es.length ≤ 6
    · have hO : pfOk n es a b = true := by unfold pfOk; rw [hj, decide_eq_true h6]; rfl
      have hT : pfT n es a b = (es.length : Nat) := by unfold pfT; rw [if_pos hO]
      have hL : pfL n es a b = natI (pathsN n es a b) := by unfold pfL; rw [if_pos hO]
      have hok := path_ok hj
      have hlen := hok.len
      have hp6 := pow_64 h6
      have HA : Hid (∀ u, ArgNet w u n A cap es → Calls Try.prog 88 #[.agg #[.int .i64 n, .slice A es.length cap], .int .i64 a, .int .i64 b] u (GotInts u (natI (pathsN n es a b)))) := fun u h => pathsOf_any n a b A cap es u h.edges hl
      have HF : Hid (∀ u A2 c2, IntsIn u u.heap.size A2 (natI (pathsN n es a b)) → Calls Try.prog 59 #[.int .i64 (es.length : Nat), .slice A2 (natI (pathsN n es a b)).length c2] u (MadeFam u (es.length : Nat) (natI (pathsN n es a b)))) := fun u A2 c2 h => by
        have k := familyOf_any es.length (es.length : Nat) A2 c2 _ (pathsN n es a b) u (by omega) h (natI_length _).symm (by rw [natI_length]; omega) (fun x hx => hok.lt x hx)
        have e : famOf es.length (pathsN n es a b) = pathsN n es a b := fam_canon (by omega) hok
        rw [e] at k
        exact k
      rw [hT, hL, hO]
      generalize natI (pathsN n es a b) = R at *
      clear hO hT hL hok hlen hp6 hj hes
      go_enter Try.func42, Try.ntmps42
      go_wp2_with fail
      refine (HP.out _ D0).mono ?_
      rintro e1 w1 ⟨rfl, hb1⟩
      have E0 := D0.next hb1
      have E1 := E0.drew
      have D1 := E1.cells
      have EA : ArgNet w w1.drew n A cap es := E1.1
      clear q0 q1 r0 r1 lt D0 c0 c1 s0
      obtain ⟨⟨_, _, c0, c1, s0⟩, -⟩ := id E0
      have h6i : ¬ ((6 : Int) < (es.length : Int)) := by omega
      go_wp2_with fail
      clear c0 c1 s0
      go_region_held3 (fun w' => w'.cell? ⟨w.heap.size, 0, none⟩ = some (.int .i64 n) ∧ w'.cell? ⟨w.heap.size, 1, none⟩ = some (.slice A es.length cap) ∧ ArgNet w w' n A cap es) (first | exact D1 | exact D3 | exact D4 | exact E4.stored _ _) (first
        | (go_simp; go_at_call 59; (with_reducible refine (HF.out _ _ _ own3.ints).mono ?_); rintro e4 w4 ⟨A4, c4, rfl, own4, hb4⟩; have E4 := E3.next hb4; have D4 := E4.cells; obtain ⟨⟨_, fb, c0, c1, s0⟩, q0, q1, r0, r1, lt⟩ := id E4; have lt3 := E3.2.lt)
        | (go_simp; go_at_call 88; (with_reducible refine (HA.out _ EA).mono ?_); rintro e3 w3 ⟨A3, c3, rfl, own3, hb3⟩; have E3 := E1.next hb3; have D3 := E3.cells))
      all_goals
        have hge := own4.ge
        go_wp2_with fail
        refine bodyPost_ret (v := .tuple #[.agg #[.int .i64 (es.length : Nat), .slice A4 R.length c4], .bool true]) (by simp [results, Try.results42, go_sem, *]) rfl ?_
        refine ⟨A4, c4, rfl, OwnI.far (OwnI.far (own4.more (by omega)) ?_ _) ?_ _, (fb.setCell (p := ⟨w.heap.size + 1, 0, none⟩) (by simp) _).setCell (p := ⟨w.heap.size + 1, 1, none⟩) (by simp) _⟩
        · intro k hk; have := hge k hk; simp; omega
        · intro k hk; have := hge k hk; simp; omega
    · have hO : pfOk n es a b = false := by unfold pfOk; rw [decide_eq_false h6, Bool.and_false]
      rw [(pf_wrong hO).1, (pf_wrong hO).2, hO]
      have h6i : (6 : Int) < (es.length : Int) := by omega
      clear hO hj hes
      go_enter Try.func42, Try.ntmps42
      go_wp2_with fail
      refine (HP.out _ D0).mono ?_
      rintro e1 w1 ⟨rfl, hb1⟩
      have D1 := D0.next hb1
      clear c0 c1 s0 q0 q1 r0 r1 lt D0
      obtain ⟨⟨_, fb, c0, c1, s0⟩, q0, q1, r0, r1, lt⟩ := id D1
      go_wp2_with fail
      refine bodyPost_ret (v := .tuple #[.agg #[.int .i64 0, .slice none 0 0], .bool false]) (by simp [results, Try.results42, go_sem, *]) rfl ?_
      exact ⟨none, 0, rfl, OwnI.nil _ _, (fb.setCell (p := ⟨w.heap.size + 1, 0, none⟩) (by simp) _).setCell (p := ⟨w.heap.size + 1, 1, none⟩) (by simp) _⟩

set_option maxHeartbeats 4000000 in
theorem specPathFamily_any (n a b : Int) (A : Option Addr) (cap : Nat) (es : List (Int × Int)) (w : World) (hes : EdgesIn w w.heap.size A es) (hl : es.length ≤ 1048576) :
    Calls Try.prog 40 #[.agg #[.int .i64 n, .slice A es.length cap], .int .i64 a, .int .i64 b] w (GotFam w (pfT n es a b) (pfL n es a b) (pfOk n es a b)) := by
  have D0 := NetFam.start w n A cap es 53 27 hes rfl
  have HP : Hid (∀ u, NetFam w u n A cap es → Calls Try.prog 84 #[.agg #[.int .i64 n, .slice A es.length cap], .int .i64 a, .int .i64 b] u fun e w' => e = .returned (.bool (joinOkB n es a b)) ∧ Below u.heap.size u w') := fun u h => l4Ends_any n a b A cap es u h.1.edges hl
  obtain ⟨⟨_, _, c0, c1, s0⟩, q0, q1, r0, r1, lt⟩ := id D0
  cases hj : joinOkB n es a b with
  | false =>
    have hO : pfOk n es a b = false := by unfold pfOk; rw [hj]; rfl
    rw [(pf_wrong hO).1, (pf_wrong hO).2, hO]
    rw [hj] at HP
    clear hO hj hes
    go_enter Try.func40, Try.ntmps40
    go_wp2_with fail
    refine (HP.out _ D0).mono ?_
    rintro e1 w1 ⟨rfl, hb1⟩
    have D1 := D0.next hb1
    clear c0 c1 s0 q0 q1 r0 r1 lt D0
    obtain ⟨⟨_, fb, c0, c1, s0⟩, q0, q1, r0, r1, lt⟩ := id D1
    go_wp2_with fail
    refine bodyPost_ret (v := .tuple #[.agg #[.int .i64 0, .slice none 0 0], .bool false]) (by simp [results, Try.results40, go_sem, *]) rfl ?_
    exact ⟨none, 0, rfl, OwnI.nil _ _, (fb.setCell (p := ⟨w.heap.size + 1, 0, none⟩) (by simp) _).setCell (p := ⟨w.heap.size + 1, 1, none⟩) (by simp) _⟩
  | true =>
    rw [hj] at HP
    by_cases h6 : es.length ≤ 6
    · have hO : pfOk n es a b = true := by unfold pfOk; rw [hj, decide_eq_true h6]; rfl
      have hT : pfT n es a b = (es.length : Nat) := by unfold pfT; rw [if_pos hO]
      have hL : pfL n es a b = natI (pathsN n es a b) := by unfold pfL; rw [if_pos hO]
      have hok := path_ok hj
      have hlen := hok.len
      have hp6 := pow_64 h6
      have HA : Hid (∀ u, ArgNet w u n A cap es → Calls Try.prog 85 #[.agg #[.int .i64 n, .slice A es.length cap], .int .i64 a, .int .i64 b] u (GotInts u (natI (pathsN n es a b)))) := fun u h => specPathsOf_any n a b A cap es u h.edges hl
      rw [hT, hL, hO]
      generalize natI (pathsN n es a b) = R at *
      clear hO hT hL hok hlen hp6 hj hes
      go_enter Try.func40, Try.ntmps40
      go_wp2_with fail
      refine (HP.out _ D0).mono ?_
      rintro e1 w1 ⟨rfl, hb1⟩
      have E0 := D0.next hb1
      have E1 := E0.drew
      have D1 := E1.cells
      have EA : ArgNet w w1.drew n A cap es := E1.1
      clear q0 q1 r0 r1 lt D0 c0 c1 s0
      obtain ⟨⟨_, _, c0, c1, s0⟩, -⟩ := id E0
      have h6i : ¬ ((6 : Int) < (es.length : Int)) := by omega
      go_wp2_with fail
      clear c0 c1 s0
      go_region_held3 (fun w' => w'.cell? ⟨w.heap.size, 0, none⟩ = some (.int .i64 n) ∧ w'.cell? ⟨w.heap.size, 1, none⟩ = some (.slice A es.length cap) ∧ ArgNet w w' n A cap es) (first | exact D1 | exact D4 | exact E4.stored _ _) (first
        | (go_simp; go_at_call 85; (with_reducible refine (HA.out _ EA).mono ?_); rintro e4 w4 ⟨A4, c4, rfl, own4, hb4⟩; have E4 := E1.next hb4; have D4 := E4.cells; obtain ⟨⟨_, fb, c0, c1, s0⟩, q0, q1, r0, r1, lt⟩ := id E4; have lt3 := E1.2.lt))
      all_goals
        have hge := own4.ge
        go_wp2_with fail
        refine bodyPost_ret (v := .tuple #[.agg #[.int .i64 (es.length : Nat), .slice A4 R.length c4], .bool true]) (by simp [results, Try.results40, go_sem, *]) rfl ?_
        refine ⟨A4, c4, rfl, OwnI.far (OwnI.far (own4.more (by omega)) ?_ _) ?_ _, (fb.setCell (p := ⟨w.heap.size + 1, 0, none⟩) (by simp) _).setCell (p := ⟨w.heap.size + 1, 1, none⟩) (by simp) _⟩
        · intro k hk; have := hge k hk; simp; omega
        · intro k hk; have := hge k hk; simp; omega
    · have hO : pfOk n es a b = false := by unfold pfOk; rw [decide_eq_false h6, Bool.and_false]
      rw [(pf_wrong hO).1, (pf_wrong hO).2, hO]
      have h6i : (6 : Int) < (es.length : Int) := by omega
      clear hO hj hes
      go_enter Try.func40, Try.ntmps40
      go_wp2_with fail
      refine (HP.out _ D0).mono ?_
      rintro e1 w1 ⟨rfl, hb1⟩
      have D1 := D0.next hb1
      clear c0 c1 s0 q0 q1 r0 r1 lt D0
      obtain ⟨⟨_, fb, c0, c1, s0⟩, q0, q1, r0, r1, lt⟩ := id D1
      go_wp2_with fail
      refine bodyPost_ret (v := .tuple #[.agg #[.int .i64 0, .slice none 0 0], .bool false]) (by simp [results, Try.results40, go_sem, *]) rfl ?_
      exact ⟨none, 0, rfl, OwnI.nil _ _, (fb.setCell (p := ⟨w.heap.size + 1, 0, none⟩) (by simp) _).setCell (p := ⟨w.heap.size + 1, 1, none⟩) (by simp) _⟩
end Go.Proofs.Ytmdmmebekicpkaa

/- The draw of a net and two nodes for families of paths. -/
namespace Go.Proofs.Ytmdmmebekicpkaa
open Go.RowKit
set_option maxRecDepth 100000

theorem EdgesIn.first {w : World} {B : Nat} {A : Option Addr} {es : List (Int × Int)} (h : EdgesIn w B A es) (k : Nat) : EdgesIn w B A (es.take k) := fun i e hi => by
  refine h i e ?_
  have hl := (List.getElem?_eq_some_iff.1 hi).1
  rw [List.length_take] at hl
  rwa [List.getElem?_take_of_lt (by omega)] at hi

def GotTermE (w : World) (e : Ending) (w' : World) : Prop :=
  ∃ (n : Int) (A : Option Addr) (c : Nat) (es : List (Int × Int)) (a b : Int), e = .returned (.tuple #[.agg #[.int .i64 n, .slice A es.length c], .int .i64 a, .int .i64 b]) ∧ EdgesIn w' w'.heap.size A es ∧ 1 ≤ n ∧ n ≤ 7 ∧ es.length ≤ 20 ∧ Below w.heap.size w w'

set_option maxHeartbeats 4000000 in
theorem drawPathFamily_any (A : Option Addr) (l cap : Nat) (w : World) (hb : BytesIn w w.heap.size A l) (hl : l ≤ 1048576) (hc : l ≤ cap) :
    Calls Try.prog 45 #[.slice A l cap] w (GotTermE w) := by
  have hbox := (Below.refl w.heap.size w).alloc (Nat.le_refl _) (.cells #[.int .i64 0, .slice none 0 0] 53)
  have hb' : BytesIn (w.alloc (.cells #[.int .i64 0, .slice none 0 0] 53)) (w.alloc (.cells #[.int .i64 0, .slice none 0 0] 53)).heap.size A l := (hb.keep fun p hp => hbox.cell hp).more (by simp)
  go_enter Try.func45, Try.ntmps45
  go_wp2_with fail
  refine (open_any _ _ _ _ hb' hl hc).mono ?_
  rintro e1 w1 ⟨rb, B, l1, c1, rfl, H1, hge, hb1⟩
  simp only [World.size_alloc] at hge
  go_wp2_with fail
  refine (l20Terminals_q _ _ _ _ _ _ H1 (by omega)).mono ?_
  rintro e2 w2 ⟨n, A2, c2, es, a, b, q, rfl, own, n1, n7, hle, a1, a2, b1, b2, H2, hg, hq⟩
  obtain ⟨q0, q1⟩ := tbox hb1 hg (by omega) 0
  obtain ⟨q2, q3⟩ := tbox hb1 hg (by omega) 1
  have hbel := tbelow hb1 hg (by omega)
  have hs := hb1.size
  simp only [World.size_alloc] at hs
  have hrb := H1.lt
  have hsg := hg.size
  have hbx := (Below.refl w2.heap.size w2).alloc (Nat.le_refl _) (.cells #[.int .i64 n, .slice A2 es.length c2] 53)
  have hrow : ∀ k, (Value.slice A2 es.length c2).ownBlock = some k → w.heap.size < k ∧ k < w2.heap.size := fun k hk => by
    have := World.ownsRow.lt own k hk
    omega
  have hcap := own.cap
  have own3 := (own.more (show rb + 1 ≤ w1.heap.size by omega)).below hbx own.lt
  have r0 := (hbx.cell (p := ⟨w.heap.size, 0, none⟩) (by simp; omega)).trans q0
  have r1 := (hbx.cell (p := ⟨w.heap.size, 1, none⟩) (by simp; omega)).trans q2
  have g0 := (hbx.frozen (p := ⟨w.heap.size, 0, none⟩) (by simp; omega)).trans q1
  have g1 := (hbx.frozen (p := ⟨w.heap.size, 1, none⟩) (by simp; omega)).trans q3
  have c0 : (w2.alloc (.cells #[.int .i64 n, .slice A2 es.length c2] 53)).cell? ⟨w2.heap.size, 0, none⟩ = some (.int .i64 n) := by rw [World.cell?_alloc_at _ _ _ _ rfl]; rfl
  have c1 : (w2.alloc (.cells #[.int .i64 n, .slice A2 es.length c2] 53)).cell? ⟨w2.heap.size, 1, none⟩ = some (.slice A2 es.length c2) := by rw [World.cell?_alloc_at _ _ _ _ rfl]; rfl
  have f1 : (w2.alloc (.cells #[.int .i64 n, .slice A2 es.length c2] 53)).frozen? ⟨w2.heap.size, 1, none⟩ = false := World.frozen?_alloc_at _ _ _ _ rfl
  have bel := hbel.trans (hbx.mono hbel.size)
  have H3 := H2.keep hbx H2.lt
  have hTn : w.heap.size ≠ w2.heap.size := by omega
  have hrt : w.heap.size < rb := by omega
  have hrn : rb < w2.heap.size := H2.lt
  obtain ⟨W, hW⟩ : ∃ W, W = w2.alloc (.cells #[.int .i64 n, .slice A2 es.length c2] 53) := ⟨_, rfl⟩
  clear H1 H2 own hg q0 q1 q2 q3 hbel hbx hb1 hb hbox hb' hge hs hsg hrb
  by_cases h6 : 6 < es.length
  · have h6i : (6 : Int) < (es.length : Int) := by omega
    go_wp2_with fail
    rw [← hW] at own3 r0 r1 g0 g1 c0 c1 f1 bel H3 ⊢
    clear hW
    generalize hnb : w2.heap.size = nb at *
    clear hnb
    refine (pick_any _ _ _ _ _ (6 : Int) _ H3 (by omega) (by omega)).mono ?_
    rintro e5 w5 ⟨x5, m5, rfl, a5, b5, -, rfl⟩
    have b5 := b5 (by omega)
    have own4 := readOn_own own3 rb q m5 (by omega)
    have r0' := (readOn_cell W rb q m5 ⟨w.heap.size, 0, none⟩ (by simp; omega)).trans r0
    have r1' := (readOn_cell W rb q m5 ⟨w.heap.size, 1, none⟩ (by simp; omega)).trans r1
    have g0' := (readOn_frozen W rb q m5 ⟨w.heap.size, 0, none⟩).trans g0
    have g1' := (readOn_frozen W rb q m5 ⟨w.heap.size, 1, none⟩).trans g1
    have c0' := (readOn_cell W rb q m5 ⟨nb, 0, none⟩ (by simp; omega)).trans c0
    have c1' := (readOn_cell W rb q m5 ⟨nb, 1, none⟩ (by simp; omega)).trans c1
    have f1' := (readOn_frozen W rb q m5 ⟨nb, 1, none⟩).trans f1
    have bel' := bel.trans (below_of_grown (readOn_grown W rb q m5) bel.size (by omega))
    clear own3 r0 r1 g0 g1 c0 c1 f1 bel H3
    generalize readOn W rb q m5 = V at *
    by_cases hx : 0 < x5
    · have hc6 : 6 ≤ c2 := by omega
      have hc6i : (6 : Int) ≤ (c2 : Int) := by omega
      go_wp2_with fail
      refine bodyPost_ret (v := .tuple #[.agg #[.int .i64 n, .slice A2 6 c2], .int .i64 a, .int .i64 b]) (by simp [results, Try.results45, go_sem, *]) rfl ?_
      have own5 := ((own4.far (fun k hk => by have := hrow k hk; simp; omega) (.slice A2 6 c2) (p := ⟨nb, 1, none⟩)).far (fun k hk => by have := hrow k hk; simp; omega) (.int .i64 n) (p := ⟨w.heap.size, 0, none⟩)).far (fun k hk => by have := hrow k hk; simp; omega) (.slice A2 6 c2) (p := ⟨w.heap.size, 1, none⟩)
      have hlen : (es.take 6).length = 6 := by rw [List.length_take]; omega
      exact ⟨n, A2, c2, es.take 6, a, b, by rw [hlen], own5.edges.first 6, n1, n7, by omega, ((bel'.setCell (by simp; omega) _).setCell (by simp) _).setCell (by simp) _⟩
    · go_wp2_with fail
      refine bodyPost_ret (v := .tuple #[.agg #[.int .i64 n, .slice A2 es.length c2], .int .i64 a, .int .i64 b]) (by simp [results, Try.results45, go_sem, *]) rfl ?_
      have own5 := (own4.far (fun k hk => by have := hrow k hk; simp; omega) (.int .i64 n) (p := ⟨w.heap.size, 0, none⟩)).far (fun k hk => by have := hrow k hk; simp; omega) (.slice A2 es.length c2) (p := ⟨w.heap.size, 1, none⟩)
      exact ⟨n, A2, c2, es, a, b, rfl, own5.edges, n1, n7, hle, (bel'.setCell (by simp) _).setCell (by simp) _⟩
  · have h6i : ¬ ((6 : Int) < (es.length : Int)) := by omega
    go_wp2_with fail
    rw [← hW] at own3 r0 r1 g0 g1 c0 c1 f1 bel H3 ⊢
    clear hW
    generalize hnb : w2.heap.size = nb at *
    clear hnb
    refine bodyPost_ret (v := .tuple #[.agg #[.int .i64 n, .slice A2 es.length c2], .int .i64 a, .int .i64 b]) (by simp [results, Try.results45, go_sem, *]) rfl ?_
    have own5 := (own3.far (fun k hk => by have := hrow k hk; simp; omega) (.int .i64 n) (p := ⟨w.heap.size, 0, none⟩)).far (fun k hk => by have := hrow k hk; simp; omega) (.slice A2 es.length c2) (p := ⟨w.heap.size, 1, none⟩)
    exact ⟨n, A2, c2, es, a, b, rfl, own5.edges, n1, n7, hle, (bel.setCell (by simp) _).setCell (by simp) _⟩
end Go.Proofs.Ytmdmmebekicpkaa
