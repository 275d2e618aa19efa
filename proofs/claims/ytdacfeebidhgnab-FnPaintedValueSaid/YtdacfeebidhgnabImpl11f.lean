/- Chapter 11 of the program: ByEdges. -/
import Derived.Test.YtdacfeebidhgnabImpl11b
import Derived.Test.YtdacfeebidhgnabArr
namespace Go.Proofs.Ytdacfeebidhgnab
open Go.RowKit
set_option maxRecDepth 100000

/-- Only block g has turned. -/
def Only (g : Nat) (w u : World) : Prop := Below g w u ∧ u.heap.size = w.heap.size ∧ ∀ k, g < k → u.heap[k]? = w.heap[k]?
theorem Only.refl (g : Nat) (w : World) : Only g w w := ⟨Below.refl _ _, rfl, fun _ _ => rfl⟩
theorem Only.trans {g : Nat} {w u v : World} (h : Only g w u) (h' : Only g u v) : Only g w v := ⟨h.1.trans h'.1, h'.2.1.trans h.2.1, fun k hk => (h'.2.2 k hk).trans (h.2.2 k hk)⟩
theorem Only.drew {g : Nat} {w u : World} (h : Only g w u) : Only g w u.drew := ⟨h.1.drew, h.2.1, h.2.2⟩
theorem Only.setCell {g : Nat} {w u : World} (h : Only g w u) (k : Nat) (v : Value) : Only g w (u.setCell ⟨g, k, none⟩ v) :=
  ⟨h.1.setCell (Nat.le_refl _) v, by simp [h.2.1], fun j hj => (Below.heap_setCell _ _ _ _ (by simp; omega)).trans (h.2.2 j hj)⟩

theorem headOnly_any (g x base : Nat) (p R d : Nat → Nat) (w : World) (hA : Arr w base g p) (hF : Forest p R d) (hx : x < 7) :
    Calls Try.prog 155 #[.pointer (some ⟨g, 0, none⟩), .int .i64 (x : Nat)] w fun e w' => e = .returned (.int .i64 (R x : Nat)) ∧ Only g w w' ∧ ∃ q, Arr w' base g q ∧ Forest q R d := by
  go_enter Try.func155, Try.ntmps155
  go_wp2
  go_loopw [1] (fun t wr => ∃ (y : Nat) (q : Nat → Nat), y < 7 ∧ Hid (R y = R x) ∧ t = .int .i64 (y : Nat) ∧ Arr wr base g q ∧ Forest q R d ∧ Only g w wr) (fun t _ => d (intOf t).toNat)
  case atStart => exact ⟨x, p, hx, rfl, rfl, hA, hF, Only.refl _ _⟩
  case round =>
    obtain ⟨y, q, hy, hR, rfl, A, F, B⟩ := hrel
    have c0 := A.cell hy
    have f0 := A.frozen y
    have hy1 := F.small y hy
    by_cases hq : q y = y
    · have hq' : (q y : Int) = y := by omega
      go_wp2
      go_ret
      exact ⟨by rw [← hR.out, F.fix y hy hq]; rfl, B, q, A, F⟩
    · have hq' : ¬ (q y : Int) = y := by omega
      obtain ⟨F2, hd, hR2, hy2⟩ := F.step hy hq
      have c1 := A.cell hy1
      have HD := Lib.hid hd
      have HR2 := Lib.hid hR2
      have A2 := (A.store y (q (q y))).drew
      have B2 : Only g w (wr.setCell ⟨g, y, none⟩ (.int .i64 (q (q y) : Nat))).drew := (B.setCell _ _).drew
      clear hd hR2 hF
      generalize hz : q y = z at *
      generalize hz2 : q z = z2 at *
      go_wp2
      go_region
      go_wp2
      go_roundw
      case rel => exact ⟨z2, upd q y z2, hy2, HR2.out.trans hR.out, rfl, A2, F2, B2⟩
      case measure => simpa [intOf] using HD.out
def WayO (w : World) (base g : Nat) (R : Nat → Nat) (u : World) : Prop := Only g w u ∧ ∃ q d, Arr u base g q ∧ Forest q R d
theorem WayO.way {w u : World} {base g : Nat} {R : Nat → Nat} (h : WayO w base g R u) : Way w base g R u := ⟨h.1.1, h.2⟩
theorem WayO.head {w u : World} {base g : Nat} {R : Nat → Nat} (h : WayO w base g R u) {x : Nat} (hx : x < 7) :
    Calls Try.prog 155 #[.pointer (some ⟨g, 0, none⟩), .int .i64 (x : Nat)] u fun e w' => e = .returned (.int .i64 (R x : Nat)) ∧ WayO w base g R w' := by
  obtain ⟨hb, q, d, hA, hF⟩ := h
  refine (headOnly_any g x base q R d u hA hF hx).mono ?_
  rintro e w' ⟨rfl, B, q', A, F⟩
  exact ⟨rfl, hb.trans B, q', d, A, F⟩
theorem joinOnly_any (g a b base : Nat) (R : Nat → Nat) (w w0 : World) (hW : WayO w0 base g R w) (ha : a < 7) (hb : b < 7) :
    Calls Try.prog 134 #[.pointer (some ⟨g, 0, none⟩), .int .i64 (a : Nat), .int .i64 (b : Nat)] w fun e w' => e = .returned (.tuple #[]) ∧ WayO w0 base g (glue R a b) w' := by
  have hD : WayO w0 base g R w.drew := by
    obtain ⟨hb, q, d, hA, hF⟩ := hW
    exact ⟨hb.drew, q, d, hA.drew, hF⟩
  go_enter Try.func134, Try.ntmps134
  go_wp2
  go_region_with (first | (go_at_call_of 155 (b : Int); refine (hD.head hb).mono ?_; rintro e1 w1 ⟨rfl, D1⟩) | (go_at_call_of 155 (a : Int); refine (D1.head ha).mono ?_; rintro e2 w2 ⟨rfl, B2, q2, d2, A2, F2⟩; have hrb := (F2.root b hb).1; have hf2 := A2.frozen (R b); have c2 := A2.cell hrb))
  have W2 : WayO w0 base g (glue R a b) (w2.setCell ⟨g, R b, none⟩ (.int .i64 (R a : Nat))) := ⟨B2.setCell _ _, _, _, A2.store (R b) (R a), F2.join ha hb⟩
  go_wp2
  go_end0
  exact ⟨rfl, W2⟩

theorem togetherOnly_any (g a b base : Nat) (R : Nat → Nat) (w w0 : World) (hW : WayO w0 base g R w) (ha : a < 7) (hb : b < 7) :
    Calls Try.prog 131 #[.pointer (some ⟨g, 0, none⟩), .int .i64 (a : Nat), .int .i64 (b : Nat)] w fun e w' => e = .returned (.bool (decide (R a = R b))) ∧ WayO w0 base g R w' := by
  go_enter Try.func131, Try.ntmps131
  go_wp2_with fail
  refine (hW.head ha).mono ?_
  rintro e1 w1 ⟨rfl, W1⟩
  go_wp2_with fail
  refine (W1.head hb).mono ?_
  rintro e2 w2 ⟨rfl, W2⟩
  go_wp2_with fail
  go_returns
  refine ⟨retB ?_, W2⟩
  rw [Bool.eq_iff_iff]
  first | (simp; done) | (simp; omega)
/-- Ends of edges that are nodes. -/
def Ends6 (es : List (Int × Int)) : Prop := ∀ e ∈ es, (1 ≤ e.1 ∧ e.1 < 7) ∧ (1 ≤ e.2 ∧ e.2 < 7)
theorem ends6_at {es : List (Int × Int)} (h : Ends6 es) {k : Nat} (hk : k < es.length) : ∃ a b : Nat, es[k]? = some ((a : Int), (b : Int)) ∧ (endsL es)[k]? = some (a, b) ∧ a < 7 ∧ b < 7 := by
  have := h es[k] (List.getElem_mem hk)
  refine ⟨es[k].1.toNat, es[k].2.toNat, ?_, ?_, by omega, by omega⟩
  · rw [List.getElem?_eq_getElem hk]
    congr 1
    apply Prod.ext <;> simp <;> omega
  · unfold endsL; rw [List.getElem?_map, List.getElem?_eq_getElem hk]; rfl
theorem allR_take (es : List (Int × Int)) (R : Nat → Nat) {k a b : Nat} (h : (endsL es)[k]? = some (a, b)) : allR ((endsL es).take (k + 1)) R = glue (allR ((endsL es).take k) R) a b := by
  rw [List.take_add_one, h, allR_append]; rfl

theorem Arr.held {w W : World} {base g : Nat} {p : Nat → Nat} (h : Arr w base g p) (hh : W.heap[g]? = w.heap[g]?) : Arr W base g p := by
  rcases h.2 with ⟨hv, _⟩ | ⟨g', cap, cur, hv, hb', h2, h3, h4, h5, h6⟩
  · cases hv
  · have hg : g' = g := by injection hv with h1 _ _; injection h1 with h1; injection h1 with h1; exact h1.symm
    subst hg
    exact ⟨h.1, .inr ⟨g', cap, cur, hv, hb', hh.trans h2, h3, h4, h5, h6⟩⟩

set_option maxHeartbeats 8000000 in
theorem joinedBy_any (q R d : Nat → Nat) (A : Option Addr) (cap : Nat) (es : List (Int × Int)) (w : World) (hes : EdgesIn w w.heap.size A es) (hF : Forest q R d) (h6 : Ends6 es) (h9 : es.length ≤ 9) :
    Calls Try.prog 132 #[.agg (arrC q), .slice A es.length cap] w fun e w' => Below w.heap.size w w' ∧ ∃ q' d', e = .returned (.agg (arrC q')) ∧ Forest q' (allR (endsL es) R) d' := by
  have H6 := Lib.hid h6
  have A0 : Arr ((w.alloc (.cells (arrC q) 75)).alloc (.cells (arrC fun _ => 0) 75)) w.heap.size w.heap.size q := (Arr.box w (base := w.heap.size) q (Nat.le_refl _)).below ((Below.refl (w.heap.size + 1) _).alloc (by simp) _) (by omega)
  have Z0 : Arr ((w.alloc (.cells (arrC q) 75)).alloc (.cells (arrC fun _ => 0) 75)) w.heap.size (w.heap.size + 1) (fun _ => 0) := by
    have := Arr.box (w.alloc (.cells (arrC q) 75)) (base := w.heap.size) (fun _ => 0) (by simp)
    rw [World.size_alloc] at this; exact this
  have B0 : Below w.heap.size w ((w.alloc (.cells (arrC q) 75)).alloc (.cells (arrC fun _ => 0) 75)) := ((Below.refl _ _).alloc (Nat.le_refl _) _).alloc (by simp) _
  have e0 : arrC (fun _ => 0) = #[.int .i64 0, .int .i64 0, .int .i64 0, .int .i64 0, .int .i64 0, .int .i64 0, .int .i64 0] := rfl
  rw [e0] at B0 A0 Z0
  clear e0 h6
  unfold arrC at B0 A0 Z0 ⊢
  go_enter Try.func132, Try.ntmps132
  go_wp2_with fail
  generalize hW : ((w.alloc (.cells #[.int .i64 (q 0), .int .i64 (q 1), .int .i64 (q 2), .int .i64 (q 3), .int .i64 (q 4), .int .i64 (q 5), .int .i64 (q 6)] 75)).alloc (.cells #[.int .i64 0, .int .i64 0, .int .i64 0, .int .i64 0, .int .i64 0, .int .i64 0, .int .i64 0] 75)) = W0 at *
  clear hW
  go_loopw [9] (fun t wr => ∃ (k : Nat) (q' d' : Nat → Nat), k ≤ es.length ∧ t = .int .i64 (k : Nat) ∧ Arr wr w.heap.size w.heap.size q' ∧ Forest q' (allR ((endsL es).take k) R) d' ∧ Arr wr w.heap.size (w.heap.size + 1) (fun _ => 0) ∧ Below w.heap.size w wr) (fun t _ => es.length - (intOf t).toNat)
  case atStart => exact ⟨0, q, d, by omega, rfl, A0, hF, Z0, B0⟩
  case round =>
    clear A0 Z0 B0 hF W0
    obtain ⟨k, p, dd, hk, rfl, A1, F1, Z1, B1⟩ := hrel
    by_cases hlt : k < es.length
    · obtain ⟨a, b, he, hel, ha, hb⟩ := ends6_at H6.out hlt
      obtain ⟨bl, off, rfl, hbb, g1, g2⟩ := hes.below B1 (Nat.le_refl _) k _ he
      simp only at g1 g2
      have HR : Hid (allR ((endsL es).take (k + 1)) R = glue (allR ((endsL es).take k) R) a b) := allR_take es R hel
      have hl := A1.lt
      have bx := (Below.refl wr.heap.size wr).alloc (Nat.le_refl _) (.cells #[.int .i64 a, .int .i64 b] 33)
      have A2 := A1.below bx A1.lt
      have Z2 := Z1.below bx Z1.lt
      have B2 := B1.alloc (by omega) (.cells #[.int .i64 a, .int .i64 b] 33)
      have W2 : WayO (wr.alloc (.cells #[.int .i64 a, .int .i64 b] 33)) w.heap.size w.heap.size (allR ((endsL es).take k) R) (wr.alloc (.cells #[.int .i64 a, .int .i64 b] 33)) := ⟨Only.refl _ _, p, dd, A2, F1⟩
      have k8 : k + 1 ≤ 9 := by omega
      clear he hel A1 A2 F1 Z1 B1 bx
      generalize allR ((endsL es).take k) R = Rk at *
      go_wp2_with fail
      refine (joinOnly_any _ a b w.heap.size _ _ _ W2 ha hb).mono ?_
      rintro e1 w1 ⟨rfl, O1, q1, d1, A3, F3⟩
      have Z3 := Z2.held (O1.2.2 (w.heap.size + 1) (by omega))
      have B3 := B2.trans O1.1
      go_wp2_with fail
      go_roundw
      case rel => exact ⟨k + 1, q1, d1, by omega, by go_num, A3, by rw [HR.out]; exact F3, Z3, B3⟩
      case measure => simp [intOf]; omega
    · obtain rfl : k = es.length := by omega
      have HE : Hid ((endsL es).take es.length = endsL es) := List.take_of_length_le (by rw [endsL_length]; omega)
      have c0 := A1.cell (show 0 < 7 by omega); have c1 := A1.cell (show 1 < 7 by omega); have c2 := A1.cell (show 2 < 7 by omega); have c3 := A1.cell (show 3 < 7 by omega); have c4 := A1.cell (show 4 < 7 by omega); have c5 := A1.cell (show 5 < 7 by omega); have c6 := A1.cell (show 6 < 7 by omega)
      have z0 := Z1.cell (show 0 < 7 by omega); have z1 := Z1.cell (show 1 < 7 by omega); have z2 := Z1.cell (show 2 < 7 by omega); have z3 := Z1.cell (show 3 < 7 by omega); have z4 := Z1.cell (show 4 < 7 by omega); have z5 := Z1.cell (show 5 < 7 by omega); have z6 := Z1.cell (show 6 < 7 by omega)
      have f0 := Z1.frozen 0; have f1 := Z1.frozen 1; have f2 := Z1.frozen 2; have f3 := Z1.frozen 3; have f4 := Z1.frozen 4; have f5 := Z1.frozen 5; have f6 := Z1.frozen 6
      go_wp2
      refine bodyPost_ret (v := .agg (arrC p)) (by simp [results, Try.results132, arrC, go_sem, *]) rfl ?_
      exact ⟨((((((B1.setCell (by simp) _).setCell (by simp) _).setCell (by simp) _).setCell (by simp) _).setCell (by simp) _).setCell (by simp) _).setCell (by simp) _, p, dd, rfl, by rw [HE.out] at F1; exact F1⟩

theorem edgesIn_tail {w : World} {B b off : Nat} {e : Int × Int} {es : List (Int × Int)} (h : EdgesIn w B (some ⟨b, off, none⟩) (e :: es)) : EdgesIn w B (some ⟨b, off + 2, none⟩) es := fun k f hk => by
  obtain ⟨b', o', hA, hlt, h1, h2⟩ := h (k + 1) f (by rw [List.getElem?_cons_succ]; exact hk)
  obtain ⟨rfl, rfl⟩ : b = b' ∧ off = o' := by injection hA with e; injection e with e1 e2; exact ⟨e1, e2⟩
  exact ⟨b, off + 2, rfl, hlt, by rw [show off + 2 + k * 2 = off + (k + 1) * 2 by omega]; exact h1, by rw [show off + 2 + k * 2 + 1 = off + (k + 1) * 2 + 1 by omega]; exact h2⟩
theorem edgesIn_one {w : World} {B b off : Nat} {e : Int × Int} {es : List (Int × Int)} (h : EdgesIn w B (some ⟨b, off, none⟩) (e :: es)) : EdgesIn w B (some ⟨b, off, none⟩) [e] := fun k f hk => by
  cases k with
  | zero => exact h 0 f (by simpa using hk)
  | succ k => simp at hk
theorem ends6_tail {e : Int × Int} {es : List (Int × Int)} (h : Ends6 (e :: es)) : Ends6 es := fun f hf => h f (by simp [hf])
theorem ends6_one {e : Int × Int} {es : List (Int × Int)} (h : Ends6 (e :: es)) : Ends6 [e] := fun f hf => h f (by simp at hf; simp [hf])
theorem edgeV_bound {x y : Int} (hx : -4 ≤ x ∧ x ≤ 4) (hy : -4 ≤ y ∧ y ≤ 4) : ∀ (es : List (Nat × Nat)) (R : Nat → Nat), -((4 ^ es.length : Nat) : Int) ≤ edgeV x y es R ∧ edgeV x y es R ≤ ((4 ^ es.length : Nat) : Int)
  | [], _ => by simp [edgeV]
  | e :: es, R => by
    have h1 := edgeV_bound hx hy es R
    have h2 := edgeV_bound hx hy es (glue R e.1 e.2)
    have h3 := abs_mul (x := y) (y := edgeV x y es R) (A := 4) (B := 4 ^ es.length) (a := 4) (b := 4 ^ es.length) hy h1 (Nat.le_refl _) (Nat.le_refl _)
    have h4 := abs_mul (x := x) (y := edgeV x y es (glue R e.1 e.2)) (A := 4) (B := 4 ^ es.length) (a := 4) (b := 4 ^ es.length) hx h2 (Nat.le_refl _) (Nat.le_refl _)
    rw [List.length_cons, Nat.pow_succ, Nat.mul_comm]
    simp only [edgeV]
    generalize 4 ^ es.length = P at *
    split
    · exact h3
    · split
      · omega
      · exact h4
theorem edgeV_small {x y : Int} (hx : -4 ≤ x ∧ x ≤ 4) (hy : -4 ≤ y ∧ y ≤ 4) {es : List (Nat × Nat)} (h9 : es.length ≤ 9) (R : Nat → Nat) : -262144 ≤ edgeV x y es R ∧ edgeV x y es R ≤ 262144 := by
  have h1 := edgeV_bound hx hy es R
  have h2 : 4 ^ es.length ≤ 4 ^ 9 := Nat.pow_le_pow_right (by omega) h9
  have e : 4 ^ 9 = 262144 := by decide
  omega
theorem mulE_wrap {x v : Int} (hx : -4 ≤ x ∧ x ≤ 4) (hv : -262144 ≤ v ∧ v ≤ 262144) : IntKind.i64.wrap (x * v) = x * v ∧ wrap64 (x * v) = x * v := by
  have h := abs_mul (x := x) (y := v) (A := 4) (B := 262144) (a := 4) (b := 262144) hx hv (Nat.le_refl _) (Nat.le_refl _)
  have e : 4 * 262144 = 1048576 := by decide
  rw [e] at h
  generalize x * v = z at *
  exact ⟨IntWalk.i64_in _ (by omega), by unfold wrap64; omega⟩

set_option maxHeartbeats 8000000 in
theorem edgeByEdge_any (x y : Int) (hx : -4 ≤ x ∧ x ≤ 4) (hy : -4 ≤ y ∧ y ≤ 4) : ∀ (es : List (Int × Int)) (q R d : Nat → Nat) (A : Option Addr) (cap : Nat) (w : World), EdgesIn w w.heap.size A es → Forest q R d → Ends6 es → es.length ≤ 9 → es.length ≤ cap →
    Calls Try.prog 75 #[.slice A es.length cap, .agg (arrC q), .int .i64 x, .int .i64 y] w fun e w' => e = .returned (.int .i64 (edgeV x y (endsL es) R)) ∧ Below w.heap.size w w'
  | [], q, R, d, A, cap, w, _, _, _, _, _ => by
    have HV : Hid (edgeV x y (endsL []) R = 1) := rfl
    rw [HV.out]
    unfold arrC
    go_enter Try.func75, Try.ntmps75
    go_wp2_with fail
    go_returns
    exact ⟨by first | rfl | simp, (Below.refl _ _).alloc (Nat.le_refl _) _⟩
  | e :: es, q, R, d, A, cap, w, hes, hF, h6, h9, hcap => by
    have ih := edgeByEdge_any x y hx hy es
    obtain ⟨a, b, he, hel, ha, hb⟩ := ends6_at h6 (k := 0) (by simp)
    obtain ⟨bl, off, rfl, hbb, g1, g2⟩ := hes 0 _ he
    simp only [Nat.zero_mul, Nat.add_zero] at g1 g2
    obtain rfl : e = ((a : Int), (b : Int)) := by simpa using he
    rw [List.length_cons] at h9 hcap
    have h8 : es.length ≤ 8 := by omega
    have HI : Hid (∀ (q R d : Nat → Nat) (A : Option Addr) (cap : Nat) (w : World), EdgesIn w w.heap.size A es → Forest q R d → es.length ≤ cap → Calls Try.prog 75 #[.slice A es.length cap, .agg #[.int .i64 (q 0), .int .i64 (q 1), .int .i64 (q 2), .int .i64 (q 3), .int .i64 (q 4), .int .i64 (q 5), .int .i64 (q 6)], .int .i64 x, .int .i64 y] w fun e w' => e = .returned (.int .i64 (edgeV x y (endsL es) R)) ∧ Below w.heap.size w w') := fun q R d A cap w h1 h2 h3 => ih q R d A cap w h1 h2 (ends6_tail h6) (by omega) h3
    have HJ1 : Hid (∀ (q R d : Nat → Nat) (cap : Nat) (w : World), EdgesIn w w.heap.size (some ⟨bl, off, none⟩) (((a : Int), (b : Int)) :: es) → Forest q R d → Calls Try.prog 132 #[.agg #[.int .i64 (q 0), .int .i64 (q 1), .int .i64 (q 2), .int .i64 (q 3), .int .i64 (q 4), .int .i64 (q 5), .int .i64 (q 6)], .slice (some ⟨bl, off, none⟩) 1 cap] w fun e w' => Below w.heap.size w w' ∧ ∃ q' d', e = .returned (.agg (arrC q')) ∧ Forest q' (glue R a b) d') := fun q R d cap w h1 h2 => joinedBy_any q R d _ cap [((a : Int), (b : Int))] w (edgesIn_one h1) h2 (ends6_one h6) (by simp)
    have HJ2 : Hid (∀ (q R d : Nat → Nat) (A : Option Addr) (cap : Nat) (w : World), EdgesIn w w.heap.size A es → Forest q R d → Calls Try.prog 132 #[.agg #[.int .i64 (q 0), .int .i64 (q 1), .int .i64 (q 2), .int .i64 (q 3), .int .i64 (q 4), .int .i64 (q 5), .int .i64 (q 6)], .slice A es.length cap] w fun e w' => Below w.heap.size w w' ∧ ∃ q' d', e = .returned (.agg (arrC q')) ∧ Forest q' (allR (endsL es) R) d') := fun q R d A cap w h1 h2 => joinedBy_any q R d A cap es w h1 h2 (ends6_tail h6) (by omega)
    have HV : Hid (edgeV x y (endsL (((a : Int), (b : Int)) :: es)) R = if R a = R b then y * edgeV x y (endsL es) R else if allR (endsL es) R a = allR (endsL es) R b then edgeV x y (endsL es) R + edgeV x y (endsL es) (glue R a b) else x * edgeV x y (endsL es) (glue R a b)) := by
      unfold Hid
      show edgeV x y ((((a : Int)).toNat, ((b : Int)).toNat) :: endsL es) R = _
      rw [Int.toNat_natCast, Int.toNat_natCast]; rfl
    have HB1 : Hid (-262144 ≤ edgeV x y (endsL es) R ∧ edgeV x y (endsL es) R ≤ 262144) := edgeV_small hx hy (by rw [endsL_length]; omega) R
    have HB2 : Hid (-262144 ≤ edgeV x y (endsL es) (glue R a b) ∧ edgeV x y (endsL es) (glue R a b) ≤ 262144) := edgeV_small hx hy (by rw [endsL_length]; omega) _
    have A0 : Arr (w.alloc (.cells (arrC q) 75)) w.heap.size w.heap.size q := Arr.box w q (Nat.le_refl _)
    have E0 := hes.alloc (Nat.le_refl _) (.cells (arrC q) 75)
    have B0 := (Below.refl w.heap.size w).alloc (Nat.le_refl _) (.cells (arrC q) 75)
    obtain ⟨V, hV⟩ : ∃ V, (if R a = R b then y * edgeV x y (endsL es) R else if allR (endsL es) R a = allR (endsL es) R b then edgeV x y (endsL es) R + edgeV x y (endsL es) (glue R a b) else x * edgeV x y (endsL es) (glue R a b)) = V := ⟨_, rfl⟩
    rw [HV.out, hV]
    have HVV := Lib.hid hV
    clear ih hel hes h6 he HV hV
    unfold arrC at A0 E0 B0 ⊢
    have k1 : (w.alloc (.cells #[.int .i64 (q 0), .int .i64 (q 1), .int .i64 (q 2), .int .i64 (q 3), .int .i64 (q 4), .int .i64 (q 5), .int .i64 (q 6)] 75)).cell? ⟨bl, off, none⟩ = some (.int .i64 (a : Nat)) := (B0.cell (p := ⟨bl, off, none⟩) hbb).trans g1
    have k2 : (w.alloc (.cells #[.int .i64 (q 0), .int .i64 (q 1), .int .i64 (q 2), .int .i64 (q 3), .int .i64 (q 4), .int .i64 (q 5), .int .i64 (q 6)] 75)).cell? ⟨bl, off + 1, none⟩ = some (.int .i64 (b : Nat)) := (B0.cell (p := ⟨bl, off + 1, none⟩) hbb).trans g2
    have sz0 : (w.alloc (.cells #[.int .i64 (q 0), .int .i64 (q 1), .int .i64 (q 2), .int .i64 (q 3), .int .i64 (q 4), .int .i64 (q 5), .int .i64 (q 6)] 75)).heap.size = w.heap.size + 1 := by simp
    clear g1 g2
    go_enter Try.func75, Try.ntmps75
    go_upto_region 3 with fail
    obtain ⟨W0, hW0⟩ : ∃ W, W = w.alloc (.cells #[.int .i64 (q 0), .int .i64 (q 1), .int .i64 (q 2), .int .i64 (q 3), .int .i64 (q 4), .int .i64 (q 5), .int .i64 (q 6)] 75) := ⟨_, rfl⟩
    rw [← hW0] at A0 E0 B0 k1 k2 sz0 ⊢
    clear hW0
    go_cut [9, 10] (fun p v wx => ∃ (g9 TC : Nat) (TA : Option Addr), p = .pointer (some ⟨g9, 0, none⟩) ∧ v = .slice TA es.length TC ∧ es.length ≤ TC ∧ Arr wx w.heap.size w.heap.size q ∧ (wx.cell? ⟨g9, 0, none⟩ = some (.int .i64 (a : Nat)) ∧ wx.cell? ⟨g9, 1, none⟩ = some (.int .i64 (b : Nat)) ∧ w.heap.size < g9 ∧ g9 < wx.heap.size) ∧ EdgesIn wx w.heap.size TA es ∧ EdgesIn wx w.heap.size (some ⟨bl, off, none⟩) (((a : Int), (b : Int)) :: es) ∧ Below w.heap.size w wx)
    case first =>
      have bx := (Below.refl W0.heap.size W0).alloc (Nat.le_refl _) (.cells #[.int .i64 a, .int .i64 b] 33)
      have by1 := B0.alloc (by omega) (.cells #[.int .i64 a, .int .i64 b] 33)
      have y0 : (W0.alloc (.cells #[.int .i64 a, .int .i64 b] 33)).cell? ⟨W0.heap.size, 0, none⟩ = some (.int .i64 (a : Nat)) := by rw [World.cell?_alloc_at _ _ _ _ rfl]; rfl
      have y1 : (W0.alloc (.cells #[.int .i64 a, .int .i64 b] 33)).cell? ⟨W0.heap.size, 1, none⟩ = some (.int .i64 (b : Nat)) := by rw [World.cell?_alloc_at _ _ _ _ rfl]; rfl
      by_cases hc1 : cap = 1
      · have he0 : es.length = 0 := by omega
        obtain rfl := List.eq_nil_of_length_eq_zero he0
        subst hc1
        go_wp2_with fail
        go_region
        go_wp2_with fail
        go_meet
        rw [sz0] at y0 y1
        have F := bx.drew
        have F2 := by1.drew
        exact ⟨w.heap.size + 1, 0, _, rfl, rfl, by simp, A0.below F (by omega), ⟨y0, y1, by omega, by simp [sz0]⟩, EdgesIn.nil, E0.below F (by omega), F2⟩
      · obtain ⟨c, rfl⟩ : ∃ c, cap = c + 2 := ⟨cap - 2, by omega⟩
        go_wp2_with fail
        go_region
        go_wp2_with fail
        go_meet
        rw [sz0] at y0 y1
        have F := bx.drew
        have F2 := by1.drew
        exact ⟨w.heap.size + 1, c + 1, _, rfl, rfl, by omega, A0.below F (by omega), ⟨y0, y1, by omega, by simp [sz0]⟩, (edgesIn_tail E0).below F (by omega), E0.below F (by omega), F2⟩
    case rest =>
      clear A0 E0 B0 k1 k2 sz0 W0
      obtain ⟨g9, TC, TA, rfl, rfl, hTC, A1, ⟨z0, z1, lg, lg2⟩, ET, EA, B1⟩ := hcut
      have W1 : WayO _ w.heap.size w.heap.size R _ := ⟨Only.refl _ _, q, d, A1, hF⟩
      go_wp2_with fail
      refine (togetherOnly_any _ a b _ _ _ _ W1 ha hb).mono ?_
      rintro e2 w2 ⟨rfl, O2, q2, d2, A2, F2⟩
      have z02 : w2.cell? ⟨g9, 0, none⟩ = some (.int .i64 (a : Nat)) := (World.cell?_of_block (a := ⟨g9, 0, none⟩) (O2.2.2 g9 lg)).trans z0
      have z12 : w2.cell? ⟨g9, 1, none⟩ = some (.int .i64 (b : Nat)) := (World.cell?_of_block (a := ⟨g9, 1, none⟩) (O2.2.2 g9 lg)).trans z1
      have lg3 : g9 < w2.heap.size := by rw [O2.2.1]; exact lg2
      have ET2 := ET.below O2.1 (Nat.le_refl _)
      have EA2 := EA.below O2.1 (Nat.le_refl _)
      have B2 := B1.trans O2.1
      clear W1 A1 z0 z1 lg2 ET EA B1 O2
      have c0 := A2.cell (show 0 < 7 by omega); have c1 := A2.cell (show 1 < 7 by omega); have c2 := A2.cell (show 2 < 7 by omega); have c3 := A2.cell (show 3 < 7 by omega); have c4 := A2.cell (show 4 < 7 by omega); have c5 := A2.cell (show 5 < 7 by omega); have c6 := A2.cell (show 6 < 7 by omega)
      by_cases hj : R a = R b
      · have hd : decide (R a = R b) = true := decide_eq_true hj
        obtain ⟨wm1, wm2⟩ := mulE_wrap hy HB1.out
        have hc := Lib.hid (HI.out q2 R d2 TA TC w2 (ET2.more (by omega)) F2 hTC)
        have HR : Hid (V = y * edgeV x y (endsL es) R) := HVV.out.symm.trans (if_pos hj)
        rw [hd]
        clear HVV
        generalize edgeV x y (endsL es) R = v at *
        clear hd hj HI HJ1 HJ2 HB1 HB2
        go_wp2_with fail
        refine hc.out.mono ?_
        rintro e3 w3 ⟨rfl, hb3⟩
        go_wp2_with fail
        go_returns
        exact ⟨retI HR.out.symm, B2.trans (hb3.mono (by omega))⟩
      · have hd : decide (R a = R b) = false := decide_eq_false hj
        rw [hd]
        have HW : Hid (V = if allR (endsL es) R a = allR (endsL es) R b then edgeV x y (endsL es) R + edgeV x y (endsL es) (glue R a b) else x * edgeV x y (endsL es) (glue R a b)) := HVV.out.symm.trans (if_neg hj)
        have S2 : w2.heap.size = w2.heap.size := rfl
        clear hd hj S2 HVV
        go_upto_region 6 with fail
        go_cut [11] (fun v wx => v = .int .i64 (edgeV x y (endsL es) (glue R a b)) ∧ Below w2.heap.size w2 wx)
        case first =>
          have HC : Hid (∀ (q' d' : Nat → Nat) (u : World), Below w2.heap.size w2 u → Forest q' (glue R a b) d' → Calls Try.prog 75 #[.slice TA es.length TC, .agg #[.int .i64 (q' 0), .int .i64 (q' 1), .int .i64 (q' 2), .int .i64 (q' 3), .int .i64 (q' 4), .int .i64 (q' 5), .int .i64 (q' 6)], .int .i64 x, .int .i64 y] u fun e w' => e = .returned (.int .i64 (edgeV x y (endsL es) (glue R a b))) ∧ Below u.heap.size u w') := fun q' d' u hb hF' => HI.out q' (glue R a b) d' TA TC u (((ET2.more (by omega)).below hb (Nat.le_refl _)).more hb.size) hF' hTC
          have HJ : Hid (∀ u, Below w2.heap.size w2 u → ∀ cap, Calls Try.prog 132 #[.agg #[.int .i64 (q2 0), .int .i64 (q2 1), .int .i64 (q2 2), .int .i64 (q2 3), .int .i64 (q2 4), .int .i64 (q2 5), .int .i64 (q2 6)], .slice (some ⟨bl, off, none⟩) 1 cap] u fun e w' => Below u.heap.size u w' ∧ ∃ q' d', e = .returned (.agg (arrC q')) ∧ Forest q' (glue R a b) d') := fun u hb cap => HJ1.out q2 R d2 cap u (((EA2.more (by omega)).below hb (Nat.le_refl _)).more hb.size) F2
          unfold arrC at HJ
          have hbd := (Below.refl w2.heap.size w2).drew
          clear HI HJ1 HJ2 HB1 HB2 HW ET2 EA2 F2 A2 B2 z02 z12
          go_wp2_with fail
          go_region_with (first
            | (go_simp; go_at_call 132; (with_reducible refine (HJ.out _ hbd _).mono ?_); rintro e3 w3 ⟨hb3, q3, d3, rfl, F3⟩)
            | (go_simp; go_at_call 75; (with_reducible refine (HC.out _ _ _ (hbd.trans (hb3.mono hbd.size)) F3).mono ?_); rintro e4 w4 ⟨rfl, hb4⟩))
          all_goals
            go_wp2_with fail
            go_meet
            exact ⟨rfl, (hbd.trans (hb3.mono hbd.size)).trans (hb4.mono (Nat.le_trans hbd.size hb3.size))⟩
        case rest =>
          clear HJ1
          obtain ⟨rfl, hb6⟩ := hcut
          have A6 := A2.below hb6 (by omega)
          have z06 := (hb6.cell (p := ⟨g9, 0, none⟩) lg3).trans z02
          have z16 := (hb6.cell (p := ⟨g9, 1, none⟩) lg3).trans z12
          have lg6 := Nat.lt_of_lt_of_le lg3 hb6.size
          have ET6 := ET2.below hb6 (by omega)
          have B6 := B2.trans (hb6.mono (by omega))
          have hw6 : w.heap.size < w2.heap.size := by omega
          clear A2 z02 z12 lg3 ET2 EA2 B2 c0 c1 c2 c3 c4 c5 c6
          have c0 := A6.cell (show 0 < 7 by omega); have c1 := A6.cell (show 1 < 7 by omega); have c2 := A6.cell (show 2 < 7 by omega); have c3 := A6.cell (show 3 < 7 by omega); have c4 := A6.cell (show 4 < 7 by omega); have c5 := A6.cell (show 5 < 7 by omega); have c6 := A6.cell (show 6 < 7 by omega)
          have hb6s := hb6.size
          have l6 := A6.lt
          have ETs := ET6.more (show w.heap.size ≤ _ from Nat.le_of_lt l6)
          go_wp2_with fail
          refine (HJ2.out q2 R d2 TA TC _ ETs F2).mono ?_
          rintro e7 w7 ⟨hb7, q7, d7, rfl, F7⟩
          have A7 := A6.below hb7 l6
          have z07 := (hb7.cell (p := ⟨g9, 0, none⟩) lg6).trans z06
          have z17 := (hb7.cell (p := ⟨g9, 1, none⟩) lg6).trans z16
          have lg7 := Nat.lt_of_lt_of_le lg6 hb7.size
          have ET7 := ET6.below hb7 (Nat.le_of_lt l6)
          have B7 := B6.trans (hb7.mono (Nat.le_of_lt l6))
          clear A6 z06 z16 ET6 ETs B6 HJ2 c0 c1 c2 c3 c4 c5 c6 hb7 hb6 hb6s
          have l7 := A7.lt
          have bx := (Below.refl w7.heap.size w7).alloc (Nat.le_refl _) (.cells (arrC q7) 75)
          have W8 : WayO (w7.alloc (.cells (arrC q7) 75)) w7.heap.size w7.heap.size (allR (endsL es) R) (w7.alloc (.cells (arrC q7) 75)) := ⟨Only.refl _ _, q7, d7, Arr.box w7 q7 (Nat.le_refl _), F7⟩
          have A8 := A7.below bx l7
          have z08 := (bx.cell (p := ⟨g9, 0, none⟩) lg7).trans z07
          have z18 := (bx.cell (p := ⟨g9, 1, none⟩) lg7).trans z17
          have ET8 := ET7.below bx (Nat.le_of_lt l7)
          have B8 := B7.trans (bx.mono (Nat.le_of_lt l7))
          clear A7 z07 z17 ET7 B7 bx F7
          unfold arrC at W8 A8 z08 z18 ET8 B8 ⊢
          go_wp2_with fail
          generalize hG : w7.heap.size = g12 at *
          refine (togetherOnly_any _ a b _ _ _ _ W8 ha hb).mono ?_
          rintro e9 w9 ⟨rfl, O9, q9, d9, A9, F9⟩
          have A10 := A8.below O9.1 l7
          have z09 := (O9.1.cell (p := ⟨g9, 0, none⟩) lg7).trans z08
          have ET9 := ET8.below O9.1 (Nat.le_of_lt l7)
          have B9 := B8.trans (O9.1.mono (Nat.le_of_lt l7))
          clear W8 A8 z08 z18 ET8 B8 O9 A9 F9
          have c0 := A10.cell (show 0 < 7 by omega); have c1 := A10.cell (show 1 < 7 by omega); have c2 := A10.cell (show 2 < 7 by omega); have c3 := A10.cell (show 3 < 7 by omega); have c4 := A10.cell (show 4 < 7 by omega); have c5 := A10.cell (show 5 < 7 by omega); have c6 := A10.cell (show 6 < 7 by omega)
          have l9 := A10.lt
          by_cases hj2 : allR (endsL es) R a = allR (endsL es) R b
          · have hd : decide (allR (endsL es) R a = allR (endsL es) R b) = true := decide_eq_true hj2
            have HR := Lib.hid (HW.out.trans (if_pos hj2))
            have hc := Lib.hid (HI.out q2 R d2 TA TC w9 (ET9.more (Nat.le_of_lt l9)) F2 hTC)
            have b1 := HB1.out
            have b2 := HB2.out
            rw [hd]
            clear hd hj2 HI HW HB1 HB2
            generalize edgeV x y (endsL es) R = v at *
            generalize edgeV x y (endsL es) (glue R a b) = u at *
            have wa : IntKind.i64.wrap (u + v) = u + v := IntWalk.i64_in _ (by omega)
            go_wp2_with fail
            refine hc.out.mono ?_
            rintro e3 w3 ⟨rfl, hb3⟩
            go_wp2_with fail
            go_returns
            exact ⟨retI (by rw [HR.out]; exact Int.add_comm u v), B9.trans (hb3.mono (Nat.le_of_lt l9))⟩
          · have hd : decide (allR (endsL es) R a = allR (endsL es) R b) = false := decide_eq_false hj2
            have HR := Lib.hid (HW.out.trans (if_neg hj2))
            obtain ⟨wm1, wm2⟩ := mulE_wrap hx HB2.out
            rw [hd]
            clear hd hj2 HI HW HB1 HB2
            generalize edgeV x y (endsL es) (glue R a b) = u at *
            go_wp2_with fail
            go_returns
            exact ⟨retI HR.out.symm, B9⟩

theorem rep_none (E : Nat → Nat × Nat) {T : Nat → Bool} (h : ∀ i, T i = false) : ∀ k, rep E T k = fun x => x
  | 0 => rfl
  | k + 1 => by
    show (if T k then _ else rep E T k) = _
    rw [h k, rep_none E h k]; rfl
theorem edgeV_ker (x y : Int) (es : List (Nat × Nat)) {R R' : Nat → Nat} (h : Ker R R') : edgeV x y es R = edgeV x y es R' := by rw [edge_val, edge_val, valR_ker x y es h]
theorem ends6_net {n : Int} {es : List (Int × Int)} (h : netOkB n es = true) : Ends6 es := fun e he => by
  have h1 := (netOkB_iff.1 h).1
  have h2 := (netOkB_iff.1 h).2.2 e he
  omega

set_option maxHeartbeats 8000000 in
theorem byEdges_any (n x y : Int) (A : Option Addr) (cap : Nat) (es : List (Int × Int)) (w : World) (hes : EdgesIn w w.heap.size A es) (hl : es.length ≤ 1048576) (hcap : es.length ≤ cap) :
    Calls Try.prog 20 #[.agg #[.int .i64 n, .slice A es.length cap], .int .i64 x, .int .i64 y] w fun e w' => e = .returned (.tuple #[.int .i64 (valI n es x y), .bool (roadOkB n es x y)]) ∧ Below w.heap.size w w' := by
  have L0 := ArgNet.start (cap := cap) (n := n) 25 hes
  have HN : Hid (∀ u, ArgNet w u n A cap es → Calls Try.prog 63 #[.agg #[.int .i64 n, .slice A es.length cap], .int .i64 x, .int .i64 y] u fun e w' => e = .returned (.bool (roadOkB n es x y)) ∧ Below u.heap.size u w') := fun u h => roadsOk_any n x y A cap es u h.edges hl
  obtain ⟨_, _, c0, c1, s0⟩ := id L0
  cases hok : roadOkB n es x y with
  | false =>
    have HV := Lib.hid (road_not hok)
    rw [HV.out]
    rw [hok] at HN
    clear hes hok
    go_enter Try.func20, Try.ntmps20
    go_wp2_with fail
    refine (HN.out _ L0).mono ?_
    rintro e1 w1 ⟨rfl, hb1⟩
    have L1 := L0.on _ hb1
    go_wp2_with fail
    go_returns
    exact ⟨by first | rfl | simp, L1.below⟩
  | true =>
    obtain ⟨hn, hx, hy⟩ : netOkB n es = true ∧ inFour x = true ∧ inFour y = true := by
      unfold roadOkB at hok
      simp only [Bool.and_eq_true] at hok
      exact hok
    have h9 := (netOkB_iff.1 hn).2.1
    have HP : Hid (∀ u, ArgNet w u n A cap es → Calls Try.prog 76 #[.agg #[.int .i64 n, .slice A es.length cap], .int .i64 0] u fun e w' => Below u.heap.size u w' ∧ ∃ q R d, e = .returned (.agg (arrC q)) ∧ Forest q R d ∧ edgeV x y (endsL es) R = valI n es x y) := fun u h => by
      refine (piecesOf_any n 0 A cap es u h.edges hn (by decide) (by decide)).mono ?_
      rintro e w' ⟨hb, q, R, d, he, hF, hR⟩
      refine ⟨hb, q, R, d, he, hF, ?_⟩
      have h1 := hR.same (rep_ok (endsOf_ok hn) (bits 0) es.length (Nat.le_refl _))
      rw [rep_none (endsOf es) (fun i => by simp [bits])] at h1
      unfold valI
      rw [if_pos hok, edgeV_ker x y (endsL es) h1, edge_val]
    have HE : Hid (∀ (q R d : Nat → Nat) (u : World), ArgNet w u n A cap es → Forest q R d → Calls Try.prog 75 #[.slice A es.length cap, .agg #[.int .i64 (q 0), .int .i64 (q 1), .int .i64 (q 2), .int .i64 (q 3), .int .i64 (q 4), .int .i64 (q 5), .int .i64 (q 6)], .int .i64 x, .int .i64 y] u fun e w' => e = .returned (.int .i64 (edgeV x y (endsL es) R)) ∧ Below u.heap.size u w') := fun q R d u h hF => edgeByEdge_any x y (inFour_iff.1 hx) (inFour_iff.1 hy) es q R d A cap u h.edges hF (ends6_net hn) h9 hcap
    unfold arrC at HP
    rw [hok] at HN
    clear hes hok hn hx hy h9 hl hcap
    generalize valI n es x y = Z at *
    go_enter Try.func20, Try.ntmps20
    go_wp2_with fail
    refine (HN.out _ L0).mono ?_
    rintro e1 w1 ⟨rfl, hb1⟩
    have L1 := L0.on _ hb1
    have D1 := L1.drew
    clear c0 c1 s0 L0 hb1 HN
    obtain ⟨_, _, c0, c1, s0⟩ := id L1
    clear L1
    go_wp2_with fail
    go_region_with (first
      | (go_simp; go_at_call 76; (with_reducible refine (HP.out _ D1).mono ?_); rintro e3 w3 ⟨hb3, q3, R3, d3, rfl, F3, hv3⟩; have D3 := D1.on _ hb3; have k0 := D3.c0; have k1 := D3.c1)
      | (go_simp; go_at_call 75; (with_reducible refine (HE.out _ _ _ _ D3 F3).mono ?_); rintro e4 w4 ⟨rfl, hb4⟩; rw [hv3]; have D4 := D3.on _ hb4))
    all_goals
      go_wp2_with fail
      go_returns
      exact ⟨by first | rfl | simp, D4.below⟩
end Go.Proofs.Ytdacfeebidhgnab
