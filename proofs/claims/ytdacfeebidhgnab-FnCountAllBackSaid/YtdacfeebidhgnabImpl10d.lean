/- Arrows kept as sets of bits: arrays of sets in memory, and what is left when nodes without arrows to others are taken away. -/
import Derived.Test.YtdacfeebidhgnabTutte
import Derived.Test.YtdacfeebidhgnabArr
import Derived.Test.YtdacfeebidhgnabBitsU
import Derived.Test.YtdacfeebidhgnabImpl10a
import Derived.Test.YtdacfeebidhgnabSpec10c
namespace Go.Proofs.Ytdacfeebidhgnab
open Go.RowKit
set_option maxRecDepth 100000

def rowU (p : Nat → Nat) (n : Nat) : List Value := (List.range n).map fun x => .int .u64 (p x : Nat)
theorem rowU_get (p : Nat → Nat) {n k : Nat} (h : k < n) : (rowU p n)[k]? = some (.int .u64 (p k : Nat)) := by simp [rowU, h]
theorem rowU_length (p : Nat → Nat) (n : Nat) : (rowU p n).length = n := by simp [rowU]
theorem rowU_set (p : Nat → Nat) (n k v : Nat) : (rowU p n).set k (.int .u64 (v : Nat)) = rowU (upd p k v) n := by
  apply List.ext_getElem?
  intro j
  simp only [rowU, List.getElem?_set, List.getElem?_map, List.length_map, List.length_range, upd]
  by_cases h : k = j
  · subst h
    by_cases hk : k < n
    · simp [hk]
    · simp [hk]
  · rw [if_neg h]
    by_cases hj : j < n
    · simp [hj, show ¬ j = k from fun e => h e.symm]
    · simp [hj]
/-- Block g, of the call's own from block 'base' on, holds the sets p. -/
def ArrU (w : World) (base g : Nat) (p : Nat → Nat) : Prop := w.ownsRow base 109 1 (.slice (some ⟨g, 0, none⟩) 7 7) 7 (rowU p 7)
theorem ArrU.cell {w : World} {base g : Nat} {p : Nat → Nat} (h : ArrU w base g p) {k : Nat} (hk : k < 7) : w.cell? ⟨g, k, none⟩ = some (.int .u64 (p k : Nat)) :=
  (World.ownsRow.cellAt h k (by omega)).trans (rowU_get p hk)
theorem ArrU.frozen {w : World} {base g : Nat} {p : Nat → Nat} (h : ArrU w base g p) (k : Nat) : w.frozen? ⟨g, k, none⟩ = false := World.ownsRow.frozenAt h k
theorem ArrU.store {w : World} {base g : Nat} {p : Nat → Nat} (h : ArrU w base g p) (k v : Nat) : ArrU (w.setCell ⟨g, k, none⟩ (.int .u64 (v : Nat))) base g (upd p k v) := by
  have h1 := (World.ownsRow.stored h k (.int .u64 (v : Nat))).1
  unfold ArrU
  rw [← rowU_set]; exact h1
theorem ArrU.ge {w : World} {base g : Nat} {p : Nat → Nat} (h : ArrU w base g p) : base ≤ g := (World.ownsRow.lt h g rfl).1
theorem ArrU.lt {w : World} {base g : Nat} {p : Nat → Nat} (h : ArrU w base g p) : g < w.heap.size := (World.ownsRow.lt h g rfl).2
theorem ArrU.below {w w' : World} {base B g : Nat} {p : Nat → Nat} (h : ArrU w base g p) (hb : Below B w w') (hB : g < B) : ArrU w' base g p := by
  rcases h.2 with ⟨hv, _⟩ | ⟨g', cap, cur, hv, hb', hh, h3, h4, h5, h6⟩
  · cases hv
  · have hg : g' = g := by injection hv with h1 _ _; injection h1 with h1; injection h1 with h1; exact h1.symm
    subst hg
    exact ⟨h.1, .inr ⟨g', cap, cur, hv, hb', (hb.block g' hB).trans hh, h3, h4, h5, h6⟩⟩
theorem ArrU.next {w w' : World} {base g : Nat} {p : Nat → Nat} (h : ArrU w base g p) (hb : Below w.heap.size w w') : ArrU w' base g p := h.below hb h.lt
theorem ArrU.drewN {w : World} {base g : Nat} {p : Nat → Nat} (h : ArrU w base g p) (n : Nat) : ArrU (w.drewN n) base g p := h.next (belowN (Below.refl _ w) n)
theorem ArrU.drew {w : World} {base g : Nat} {p : Nat → Nat} (h : ArrU w base g p) : ArrU w.drew base g p := h.next ((Below.refl _ w).drew)
theorem ArrU.alloc {w : World} {base g : Nat} {p : Nat → Nat} (h : ArrU w base g p) (o : Obj) : ArrU (w.alloc o) base g p := h.next ((Below.refl _ w).alloc (Nat.le_refl _) o)
def arrUC (q : Nat → Nat) : Array Value := #[.int .u64 (q 0 : Nat), .int .u64 (q 1 : Nat), .int .u64 (q 2 : Nat), .int .u64 (q 3 : Nat), .int .u64 (q 4 : Nat), .int .u64 (q 5 : Nat), .int .u64 (q 6 : Nat)]
theorem ArrU.box (w : World) {base : Nat} (q : Nat → Nat) (hb : base ≤ w.heap.size) : ArrU (w.alloc (.cells (arrUC q) 109)) base w.heap.size q :=
  ⟨rowU_length q 7, .inr ⟨w.heap.size, 7, arrUC q, rfl, hb, heap_alloc_new w _, Nat.le_refl _, by decide, rfl, rfl⟩⟩

/-- The sets q tell where the first k arrows lead. -/
def SucP (l : List (Nat × Nat)) (T : Nat → Bool) (k : Nat) (q : Nat → Nat) : Prop := (∀ v, q v < 128) ∧ ∀ v u, (q v).testBit u = true ↔ ∃ i e, i < k ∧ l[i]? = some e ∧ frE e (T i) = v ∧ toE e (T i) = u
theorem SucP.start (l : List (Nat × Nat)) (T : Nat → Bool) : SucP l T 0 fun _ => 0 :=
  ⟨fun _ => Nat.zero_lt_succ _, fun v u => by simp⟩
theorem SucP.step {l : List (Nat × Nat)} {T : Nat → Bool} {k : Nat} {q : Nat → Nat} {e : Nat × Nat} (h : SucP l T k q) (he : l[k]? = some e) (ht : toE e (T k) ≤ 6) :
    SucP l T (k + 1) (upd q (frE e (T k)) (q (frE e (T k)) ||| 2 ^ toE e (T k))) := by
  constructor
  · intro v
    unfold upd
    split
    · refine Nat.or_lt_two_pow (n := 7) (h.1 _) (Nat.pow_lt_pow_right (by omega) (by omega))
    · exact h.1 v
  · intro v u
    unfold upd
    by_cases ev : v = frE e (T k)
    · rw [if_pos ev, Nat.testBit_or, Bool.or_eq_true, ← ev, h.2, Nat.testBit_two_pow, decide_eq_true_eq]
      constructor
      · rintro (⟨i, f, h1, h2, h3, h4⟩ | h1)
        · exact ⟨i, f, by omega, h2, h3, h4⟩
        · exact ⟨k, e, by omega, he, ev.symm, h1⟩
      · rintro ⟨i, f, h1, h2, h3, h4⟩
        by_cases ei : i = k
        · subst ei
          rw [he] at h2
          cases h2
          exact .inr h4
        · exact .inl ⟨i, f, by omega, h2, h3, h4⟩
    · rw [if_neg ev, h.2]
      constructor
      · rintro ⟨i, f, h1, h2, h3, h4⟩; exact ⟨i, f, by omega, h2, h3, h4⟩
      · rintro ⟨i, f, h1, h2, h3, h4⟩
        by_cases ei : i = k
        · subst ei
          rw [he] at h2
          cases h2
          exact absurd h3.symm ev
        · exact ⟨i, f, by omega, h2, h3, h4⟩
/-- The nodes before k of a set from which an arrow leads to a node of the set. -/
def keepM (q : Nat → Nat) (X : Nat) : Nat → Nat
  | 0 => 0
  | k + 1 => if (X.testBit k && decide (q k &&& X ≠ 0)) = true then keepM q X k ||| 2 ^ k else keepM q X k
theorem keepM_bit (q : Nat → Nat) (X v : Nat) : ∀ k, (keepM q X k).testBit v = true ↔ v < k ∧ X.testBit v = true ∧ q v &&& X ≠ 0
  | 0 => by simp [keepM]
  | k + 1 => by
    simp only [keepM]
    by_cases h : (X.testBit k && decide (q k &&& X ≠ 0)) = true
    · rw [if_pos h, Nat.testBit_or, Bool.or_eq_true, keepM_bit q X v k, Nat.testBit_two_pow, decide_eq_true_eq]
      simp only [Bool.and_eq_true, decide_eq_true_eq] at h
      constructor
      · rintro (h1 | h1)
        · exact ⟨by omega, h1.2⟩
        · subst h1; exact ⟨by omega, h⟩
      · rintro ⟨h1, h2⟩
        by_cases e : v = k
        · exact .inr e.symm
        · exact .inl ⟨by omega, h2⟩
    · rw [if_neg h, keepM_bit q X v k]
      simp only [Bool.and_eq_true, decide_eq_true_eq] at h
      constructor
      · rintro ⟨h1, h2⟩; exact ⟨by omega, h2⟩
      · rintro ⟨h1, h2⟩
        by_cases e : v = k
        · subst e; exact absurd h2 h
        · exact ⟨by omega, h2⟩
theorem keepM_le (q : Nat → Nat) (X k : Nat) : keepM q X k ≤ X := by
  have : keepM q X k &&& X = keepM q X k := by
    refine Nat.eq_of_testBit_eq fun i => ?_
    rw [Nat.testBit_and]
    cases h : (keepM q X k).testBit i with
    | false => rfl
    | true => rw [((keepM_bit q X i k).1 h).2.1]; rfl
  rw [← this]; exact Nat.and_le_right
/-- Numbers of the nodes taken away fall along the arrows. -/
def InvF (l : List (Nat × Nat)) (T : Nat → Bool) (X : Nat) : Prop := ∃ (h : Nat → Nat) (b : Nat), (∀ v, X.testBit v = false → h v < b) ∧ ∀ k e, l[k]? = some e → X.testBit (frE e (T k)) = false → X.testBit (toE e (T k)) = false ∧ h (toE e (T k)) < h (frE e (T k))
theorem InvF.start {n : Nat} {l : List (Nat × Nat)} (he : EdgesOk n l) (T : Nat → Bool) : InvF l T (2 ^ (n + 1) - 1) := by
  refine ⟨fun _ => 0, 1, fun _ _ => Nat.zero_lt_succ _, fun k e hk hf => ?_⟩
  have h5 := ends_range he hk (T k)
  rw [Nat.testBit_two_pow_sub_one] at hf
  simp at hf; omega
theorem and_zero_bit {x y : Nat} : x &&& y = 0 ↔ ∀ i, x.testBit i = true → y.testBit i = false := by
  constructor
  · intro h i hi
    have : (x &&& y).testBit i = false := by rw [h]; exact Nat.zero_testBit i
    rwa [Nat.testBit_and, hi, Bool.true_and] at this
  · intro h
    refine Nat.eq_of_testBit_eq fun i => ?_
    rw [Nat.testBit_and, Nat.zero_testBit]
    cases hx : x.testBit i with
    | false => rfl
    | true => rw [h i hx]; rfl
theorem InvF.step {n : Nat} (hn : n ≤ 6) {l : List (Nat × Nat)} (he : EdgesOk n l) {T : Nat → Bool} {q : Nat → Nat} {X : Nat} (hq : SucP l T l.length q) (h : InvF l T X) : InvF l T (keepM q X 7) := by
  obtain ⟨f, b, h1, h2⟩ := h
  refine ⟨fun v => if X.testBit v = true then b else f v, b + 1, fun v hv => ?_, fun k e hk hf => ?_⟩
  · show (if X.testBit v = true then b else f v) < b + 1
    cases hx : X.testBit v with
    | true => simp
    | false => have := h1 v hx; simp; omega
  · have h5 := ends_range he hk (T k)
    show _ ∧ (if X.testBit (toE e (T k)) = true then b else f (toE e (T k))) < if X.testBit (frE e (T k)) = true then b else f (frE e (T k))
    have hsub : ∀ v, X.testBit v = false → (keepM q X 7).testBit v = false := fun v hv => by
      rw [← Bool.not_eq_true, keepM_bit, hv]; simp
    cases hx : X.testBit (frE e (T k)) with
    | false =>
      obtain ⟨h3, h4⟩ := h2 k e hk hx
      rw [h3]
      exact ⟨hsub _ h3, by simpa using h4⟩
    | true =>
      have h6 : q (frE e (T k)) &&& X = 0 := by
        refine Classical.byContradiction fun hne => ?_
        rw [(keepM_bit q X _ 7).2 ⟨by omega, hx, hne⟩] at hf; cases hf
      have h7 := and_zero_bit.1 h6 (toE e (T k)) ((hq.2 _ _).2 ⟨k, e, (List.getElem?_eq_some_iff.1 hk).1, hk, rfl, rfl⟩)
      rw [h7]
      exact ⟨hsub _ h7, by simpa using h1 _ h7⟩
theorem keep_none {n : Nat} {l : List (Nat × Nat)} (he : EdgesOk n l) {s : Nat} (h : InvF l (fun i => s.testBit i) 0) : backV l s = false := by
  obtain ⟨f, b, _, h2⟩ := h
  rw [back_falls he]
  exact ⟨f, fun k e hk => (h2 k e hk (Nat.zero_testBit _)).2⟩
theorem keep_some {n : Nat} {l : List (Nat × Nat)} (he : EdgesOk n l) {s : Nat} {q : Nat → Nat} {X : Nat} (hq : SucP l (fun i => s.testBit i) l.length q) (hX : keepM q X 7 = X) (h0 : X ≠ 0) : backV l s = true := by
  rw [← Bool.not_eq_false, back_falls he]
  rintro ⟨f, hf⟩
  have : ∀ m v, f v < m → X.testBit v = true → False := by
    intro m
    induction m with
    | zero => intro v h; omega
    | succ m ih =>
      intro v hv hx
      rw [← hX] at hx
      obtain ⟨-, -, h3⟩ := (keepM_bit q X v 7).1 hx
      have : ¬ ∀ i, (q v).testBit i = true → X.testBit i = false := fun hh => h3 (and_zero_bit.2 hh)
      apply this
      intro u hu
      cases hxu : X.testBit u with
      | false => rfl
      | true =>
        obtain ⟨i, e, h4, h5, h6, h7⟩ := (hq.2 v u).1 hu
        have h8 := hf i e h5
        rw [h6, h7] at h8
        exact absurd hxu (fun hxu => ih u (by omega) hxu)
  obtain ⟨i, hi⟩ := Nat.exists_testBit_of_ne_zero h0
  exact this (f i + 1) i (by omega) hi
end Go.Proofs.Ytdacfeebidhgnab

/- Chapter 10 of the program: arrows. -/
namespace Go.Proofs.Ytdacfeebidhgnab
open Go.RowKit
set_option maxRecDepth 100000

theorem shl_low : ∀ k, k ≤ 8 → IntKind.u64.wrap (2 ^ k) = ((2 ^ k : Nat) : Int) := by decide
theorem pow_low8 {k : Nat} (h : k ≤ 6) : 2 ^ k ≤ 64 := by
  have := Nat.pow_le_pow_right (n := 2) (by omega) h
  have e : 2 ^ 6 = 64 := by decide
  omega
theorem upd_stop {l : List (Nat × Nat)} {T : Nat → Bool} {k f t : Nat} {q : Nat → Nat} {e : Nat × Nat} (h : SucP l T k q) (he : l[k]? = some e) (hf : frE e (T k) = f) (ht : toE e (T k) = t) (h6 : t ≤ 6) : SucP l T (k + 1) (upd q f (q f ||| 2 ^ t)) := by
  subst hf ht
  exact h.step he h6

set_option maxHeartbeats 8000000 in
theorem arrowsOf_any (n : Int) (s : Nat) (A : Option Addr) (cap : Nat) (es : List (Int × Int)) (w : World) (hes : EdgesIn w w.heap.size A es) (hn : netOkB n es = true) (hs : s < 512) :
    Calls Try.prog 139 #[.agg #[.int .i64 n, .slice A es.length cap], .int .i64 s] w fun e w' => Below w.heap.size w w' ∧ ∃ q, e = .returned (.agg (arrUC q)) ∧ SucP (endsL es) (fun i => s.testBit i) es.length q := by
  have h9 := (netOkB_iff.1 hn).2.1
  have HN := Lib.hid hn
  clear hn
  obtain ⟨T, hT⟩ : ∃ T : Nat → Bool, (fun i => s.testBit i) = T := ⟨_, rfl⟩
  have HT : Hid (∀ i, s.testBit i = T i) := fun i => by rw [← hT]
  have HS0 := Lib.hid (SucP.start (endsL es) T)
  rw [hT]
  clear hT
  go_enter Try.func139, Try.ntmps139
  go_wp2
  have B0 : Below w.heap.size w (((w.alloc (.cells #[.int .i64 n, .slice A es.length cap] 25)).alloc (.cells (arrUC fun _ => 0) 109)).alloc (.cells (arrUC fun _ => 0) 109)) := by go_grown
  have L0 : ArgNet w (((w.alloc (.cells #[.int .i64 n, .slice A es.length cap] 25)).alloc (.cells (arrUC fun _ => 0) 109)).alloc (.cells (arrUC fun _ => 0) 109)) n A cap es :=
    ((ArgNet.start 25 hes).step ((Below.refl (w.heap.size + 1) _).alloc (by simp) _) (by omega)).step ((Below.refl (w.heap.size + 1) _).alloc (by simp) _) (by omega)
  have A0 : ArrU (((w.alloc (.cells #[.int .i64 n, .slice A es.length cap] 25)).alloc (.cells (arrUC fun _ => 0) 109)).alloc (.cells (arrUC fun _ => 0) 109)) w.heap.size (w.heap.size + 2) (fun _ => 0) := by
    simpa using ArrU.box ((w.alloc (.cells #[.int .i64 n, .slice A es.length cap] 25)).alloc (.cells (arrUC fun _ => 0) 109)) (base := w.heap.size) (fun _ => 0) (by simp; omega)
  have Z0 : ArrU (((w.alloc (.cells #[.int .i64 n, .slice A es.length cap] 25)).alloc (.cells (arrUC fun _ => 0) 109)).alloc (.cells (arrUC fun _ => 0) 109)) w.heap.size (w.heap.size + 1) (fun _ => 0) := by
    have := ArrU.box (w.alloc (.cells #[.int .i64 n, .slice A es.length cap] 25)) (base := w.heap.size) (fun _ => 0) (by simp)
    rw [show (w.alloc (.cells #[.int .i64 n, .slice A es.length cap] 25)).heap.size = w.heap.size + 1 by simp] at this
    exact this.below ((Below.refl (w.heap.size + 2) _).alloc (by simp) _) (by omega)
  have e0 : arrUC (fun _ => 0) = #[.int .u64 0, .int .u64 0, .int .u64 0, .int .u64 0, .int .u64 0, .int .u64 0, .int .u64 0] := rfl
  rw [e0] at B0 L0 A0 Z0
  clear e0
  generalize hW : (((w.alloc (.cells #[.int .i64 n, .slice A es.length cap] 25)).alloc (.cells #[.int .u64 0, .int .u64 0, .int .u64 0, .int .u64 0, .int .u64 0, .int .u64 0, .int .u64 0] 109)).alloc (.cells #[.int .u64 0, .int .u64 0, .int .u64 0, .int .u64 0, .int .u64 0, .int .u64 0, .int .u64 0] 109)) = W0 at *
  clear hW
  go_loopw [13] (fun t wr => ∃ (k : Nat) (q : Nat → Nat), k ≤ es.length ∧ t = .int .i64 (k : Nat) ∧ ArrU wr w.heap.size (w.heap.size + 2) q ∧ Hid (SucP (endsL es) T k q) ∧ Below (w.heap.size + 2) W0 wr) (fun t _ => es.length - (intOf t).toNat)
  case atStart => exact ⟨0, fun _ => 0, by omega, rfl, A0, HS0, Below.refl _ _⟩
  case round =>
    clear A0
    obtain ⟨k, q, hk, rfl, A1, HQ, B1⟩ := hrel
    have L1 := L0.step B1 (by omega)
    obtain ⟨_, _, c0, c1, s1⟩ := id L1
    by_cases hlt : k < es.length
    · obtain ⟨a, b, he, hE, ha1, hb1, ha7, hb7, han, hbn⟩ := fits_ends HN.out hlt
      obtain ⟨bl, off, rfl, hbb, g1, g2⟩ := L1.at_ k _ (List.getElem?_eq_getElem hlt)
      rw [he] at g1 g2
      have hll : (endsL es)[k]? = some (a, b) := by
        rw [endsL_at (List.getElem?_eq_getElem hlt), he]; simp [endN]
      have hsz : w.heap.size + 2 < wr.heap.size := A1.lt
      cases htk : T k with
      | true =>
        have HQ2 := Lib.hid (upd_stop HQ.out hll (show frE (a, b) (T k) = b by rw [htk]; rfl) (show toE (a, b) (T k) = a by rw [htk]; rfl) (by omega))
        have hqb : q b ≤ 127 := by have := HQ.out.1 b; omega
        have hp := shl_low a (by omega)
        have hp2 := pow_low8 (k := a) (by omega)
        have hor := or_us (x := q b) (y := 2 ^ a) (by omega) (by omega)
        have f1 := A1.frozen b
        have a1 := A1.cell (k := b) (by omega)
        obtain ⟨P, hP⟩ : ∃ P, 2 ^ a = P := ⟨_, rfl⟩
        rw [hP] at hp hor HQ2 hp2
        obtain ⟨V, hV⟩ : ∃ V, q b ||| P = V := ⟨_, rfl⟩
        rw [hV] at hor HQ2
        generalize q b = v at *
        clear hP hV
        have htb := (HT.out k).trans htk
        have HTB := Lib.hid htb
        have i7 : (b : Int) < 7 := by omega
        have iu : IntKind.u64.wrap (s : Int) = (s : Int) := IntWalk.u64_in _ (by omega)
        have B2 := fun o => B1.trans ((Below.refl (w.heap.size + 2) wr).alloc (by omega) o)
        have HA := Lib.hid A1
        clear htb htk hE he hll HQ
        go_wp2_with fail
        go_quiet (fail)
        go_wp2_with fail
        refine (has_any s k _ hs (by omega)).mono ?_
        rintro e1 w1 ⟨rfl, rfl⟩
        rw [HTB.out]
        go_wp2_with fail
        go_region
        go_wp2_with fail
        go_roundw
        case rel => exact ⟨k + 1, _, by omega, by go_num, ((HA.out.alloc _).drewN _).store b V, HQ2.out, (belowN (B2 _) _).setCell (by simp) _⟩
        case measure => simp [intOf]; omega
      | false =>
        have HQ2 := Lib.hid (upd_stop HQ.out hll (show frE (a, b) (T k) = a by rw [htk]; rfl) (show toE (a, b) (T k) = b by rw [htk]; rfl) (by omega))
        have hqb : q a ≤ 127 := by have := HQ.out.1 a; omega
        have hp := shl_low b (by omega)
        have hp2 := pow_low8 (k := b) (by omega)
        have hor := or_us (x := q a) (y := 2 ^ b) (by omega) (by omega)
        have f1 := A1.frozen a
        have a1 := A1.cell (k := a) (by omega)
        obtain ⟨P, hP⟩ : ∃ P, 2 ^ b = P := ⟨_, rfl⟩
        rw [hP] at hp hor HQ2 hp2
        obtain ⟨V, hV⟩ : ∃ V, q a ||| P = V := ⟨_, rfl⟩
        rw [hV] at hor HQ2
        generalize q a = v at *
        clear hP hV
        have htb := (HT.out k).trans htk
        have HTB := Lib.hid htb
        have i7 : (a : Int) < 7 := by omega
        have iu : IntKind.u64.wrap (s : Int) = (s : Int) := IntWalk.u64_in _ (by omega)
        have B2 := fun o => B1.trans ((Below.refl (w.heap.size + 2) wr).alloc (by omega) o)
        have HA := Lib.hid A1
        clear htb htk hE he hll HQ
        go_wp2_with fail
        go_quiet (fail)
        go_wp2_with fail
        refine (has_any s k _ hs (by omega)).mono ?_
        rintro e1 w1 ⟨rfl, rfl⟩
        rw [HTB.out]
        go_wp2_with fail
        go_region
        go_wp2_with fail
        go_roundw
        case rel => exact ⟨k + 1, _, by omega, by go_num, ((HA.out.alloc _).drewN _).store a V, HQ2.out, (belowN (B2 _) _).setCell (by simp) _⟩
        case measure => simp [intOf]; omega
    · obtain rfl : k = es.length := by omega
      have BB := B0.trans (B1.mono (by omega))
      have Z1 := Z0.below B1 (by omega)
      have c0 := A1.cell (show 0 < 7 by omega); have c1 := A1.cell (show 1 < 7 by omega); have c2 := A1.cell (show 2 < 7 by omega); have c3 := A1.cell (show 3 < 7 by omega); have c4 := A1.cell (show 4 < 7 by omega); have c5 := A1.cell (show 5 < 7 by omega); have c6 := A1.cell (show 6 < 7 by omega)
      have z0 := Z1.cell (show 0 < 7 by omega); have z1 := Z1.cell (show 1 < 7 by omega); have z2 := Z1.cell (show 2 < 7 by omega); have z3 := Z1.cell (show 3 < 7 by omega); have z4 := Z1.cell (show 4 < 7 by omega); have z5 := Z1.cell (show 5 < 7 by omega); have z6 := Z1.cell (show 6 < 7 by omega)
      have f0 := Z1.frozen 0; have f1 := Z1.frozen 1; have f2 := Z1.frozen 2; have f3 := Z1.frozen 3; have f4 := Z1.frozen 4; have f5 := Z1.frozen 5; have f6 := Z1.frozen 6
      go_wp2
      refine bodyPost_ret (v := .agg (arrUC q)) (by simp [results, Try.results139, arrUC, go_sem, *]) rfl ?_
      exact ⟨((((((BB.setCell (by simp) _).setCell (by simp) _).setCell (by simp) _).setCell (by simp) _).setCell (by simp) _).setCell (by simp) _).setCell (by simp) _, q, rfl, HQ.out⟩

set_option maxHeartbeats 4000000 in
theorem withArrows_any (g X base : Nat) (q : Nat → Nat) (w : World) (A0 : ArrU w base g q) (hq : ∀ v, q v < 128) (hX : X < 128) :
    Calls Try.prog 140 #[.pointer (some ⟨g, 0, none⟩), .int .u64 X] w fun e w' => e = .returned (.int .u64 (keepM q X 7 : Nat)) ∧ Below w.heap.size w w' := by
  have HQ := Lib.hid hq
  have HK : Hid (∀ k, keepM q X k ≤ X) := fun k => keepM_le q X k
  have HS : Hid (∀ k, keepM q X (k + 1) = if (X.testBit k && decide (q k &&& X ≠ 0)) = true then keepM q X k ||| 2 ^ k else keepM q X k) := fun k => rfl
  have hk0 : keepM q X 0 = 0 := rfl
  clear hq
  go_enter Try.func140, Try.ntmps140
  go_wp2_with fail
  go_loopw [5, 9] (fun v t wr => ∃ k : Nat, k ≤ 7 ∧ t = .int .i64 (k : Nat) ∧ v = .int .u64 (keepM q X k : Nat) ∧ ArrU wr base g q ∧ Below w.heap.size w wr) (fun _ t _ => 7 - (intOf t).toNat)
  case atStart => exact ⟨0, by omega, rfl, by rw [hk0]; rfl, A0, Below.refl _ _⟩
  case round =>
    clear A0
    obtain ⟨k, hk, rfl, rfl, A1, B1⟩ := hrel
    by_cases hlt : k < 7
    · have a1 := A1.cell hlt
      have hg := A1.lt
      have hqk := HQ.out k
      have hK := HK.out k
      have hS := HS.out k
      have HT : Hid (∀ u, Calls Try.prog 133 #[.int .u64 X, .int .i64 k] u fun e w' => e = .returned (.bool (X.testBit k)) ∧ u = w') := fun u => has_any X k u (by omega) (by omega)
      cases hb : X.testBit k with
      | false =>
        rw [hb, Bool.false_and, if_neg (by simp)] at hS
        rw [hb] at HT
        have HSS := Lib.hid hS
        generalize keepM q X k = z at *
        clear hb hS
        go_wp2_with fail
        go_quiet (fail)
        go_wp2_with fail
        refine (HT.out _).mono ?_
        rintro e1 w1 ⟨rfl, rfl⟩
        go_wp2_with fail
        go_roundw
        case rel => exact ⟨k + 1, by omega, by go_num, by rw [HSS.out], A1.drewN _, belowN B1 _⟩
        case measure => simp [intOf]; omega
      | true =>
        rw [hb, Bool.true_and] at hS
        rw [hb] at HT
        have hand := and_us (x := q k) (y := X) (by omega) (by omega)
        have hor := or_us (x := keepM q X k) (y := 2 ^ k) (by omega) (by have := pow_low8 (k := k) (by omega); omega)
        have hp := shl_low k (by omega)
        obtain ⟨P, hP⟩ : ∃ P, 2 ^ k = P := ⟨_, rfl⟩
        rw [hP] at hp hor hS
        by_cases h0 : q k &&& X = 0
        · rw [if_neg (by simp [h0])] at hS
          rw [h0] at hand
          have HSS := Lib.hid hS
          have hand2 : Go.bits .and .u64 (q k : Int) (X : Int) = 0 := hand
          generalize q k = v at *
          generalize keepM q X k = z at *
          clear hb hS hP h0 hand hor hp
          go_wp2_with fail
          go_quiet (fail)
          go_wp2_with fail
          refine (HT.out _).mono ?_
          rintro e1 w1 ⟨rfl, rfl⟩
          go_wp2_with fail
          go_roundw
          case rel => exact ⟨k + 1, by omega, by go_num, by rw [HSS.out], A1.drewN _, belowN B1 _⟩
          case measure => simp [intOf]; omega
        · rw [if_pos (by simp [h0])] at hS
          have HSS := Lib.hid hS
          obtain ⟨N, hN⟩ : ∃ N, q k &&& X = N := ⟨_, rfl⟩
          rw [hN] at hand h0
          have hN1 : ¬ (N : Int) = 0 := by omega
          have hN2 : ((N : Int) == 0) = false := by rw [beq_eq_false_iff_ne]; omega
          obtain ⟨V, hV⟩ : ∃ V, keepM q X k ||| P = V := ⟨_, rfl⟩
          rw [hV] at hor HSS
          generalize q k = v at *
          generalize keepM q X k = z at *
          clear hb hS hP h0 hN hV
          go_wp2_with fail
          go_quiet (fail)
          go_wp2_with fail
          refine (HT.out _).mono ?_
          rintro e1 w1 ⟨rfl, rfl⟩
          go_wp2_with fail
          go_roundw
          case rel => exact ⟨k + 1, by omega, by go_num, by rw [HSS.out] <;> first | rfl | simp [hor], A1.drewN _, belowN B1 _⟩
          case measure => simp [intOf]; omega
    · obtain rfl : k = 7 := by omega
      go_wp2_with fail
      go_returns
      exact ⟨rfl, B1⟩

set_option maxHeartbeats 4000000 in
theorem backOk_any (n s : Int) (A : Option Addr) (cap : Nat) (es : List (Int × Int)) (w : World) (hes : EdgesIn w w.heap.size A es) (hl : es.length ≤ 1048576) :
    Calls Try.prog 89 #[.agg #[.int .i64 n, .slice A es.length cap], .int .i64 s] w fun e w' => e = .returned (.bool (backB n es s)) ∧ Below w.heap.size w w' := by
  have L0 := ArgNet.start (cap := cap) (n := n) 25 hes
  obtain ⟨_, _, c0, c1, s0⟩ := id L0
  have HS : Hid (∀ u, ArgNet w u n A cap es → Calls Try.prog 95 #[.agg #[.int .i64 n, .slice A es.length cap], .int .i64 s] u fun e w' => e = .returned (.bool (stateOkB n es s)) ∧ Below u.heap.size u w') := fun u h => stateOk_any n s A cap es u h.edges hl
  cases hok : stateOkB n es s with
  | false =>
    have HV : Hid (backB n es s = false) := by unfold Hid backB; rw [hok]; rfl
    rw [HV.out]
    rw [hok] at HS
    clear hes hok
    go_enter Try.func89, Try.ntmps89
    go_wp2_with fail
    refine (HS.out _ L0).mono ?_
    rintro e1 w1 ⟨rfl, hb1⟩
    have L1 := L0.step hb1 L0.lt
    go_wp2_with fail
    go_returns
    exact ⟨by first | rfl | simp, L1.below⟩
  | true =>
    have hnet := stateOkB_net hok
    have h6 := (netOkB_iff.1 hnet).1
    obtain ⟨m, rfl⟩ : ∃ m : Nat, n = m := ⟨n.toNat, by omega⟩
    obtain ⟨t, rfl, -, ht5⟩ := state_nat hok
    have HE : Hid (EdgesOk m (endsL es)) := by have := endsL_ok hnet; rwa [Int.toNat_natCast] at this
    have HLL := Lib.hid (endsL_length es)
    have HV : Hid (backB m es t = backV (endsL es) t) := by unfold Hid backB; rw [hok]; rfl
    have HA : Hid (∀ u, ArgNet w u m A cap es → Calls Try.prog 139 #[.agg #[.int .i64 (m : Nat), .slice A es.length cap], .int .i64 t] u fun e w' => Below u.heap.size u w' ∧ ∃ q, e = .returned (.agg (arrUC q)) ∧ SucP (endsL es) (fun i => t.testBit i) es.length q) := fun u h => arrowsOf_any m t A cap es u h.edges hnet ht5
    obtain ⟨V, hV⟩ : ∃ V, backV (endsL es) t = V := ⟨_, rfl⟩
    have HV1 : Hid (∀ q X, SucP (endsL es) (fun i => t.testBit i) es.length q → keepM q X 7 = X → X ≠ 0 → V = true) := fun q X h1 h2 h3 => by
      rw [← hV]; exact keep_some HE.out (HLL.out.symm ▸ h1) h2 h3
    have HV0 : Hid (InvF (endsL es) (fun i => t.testBit i) 0 → V = false) := fun h => by rw [← hV]; exact keep_none HE.out h
    have HI0 : Hid (InvF (endsL es) (fun i => t.testBit i) (2 ^ (m + 1) - 1)) := InvF.start HE.out _
    have HIS : Hid (∀ q X, SucP (endsL es) (fun i => t.testBit i) es.length q → InvF (endsL es) (fun i => t.testBit i) X → InvF (endsL es) (fun i => t.testBit i) (keepM q X 7)) := fun q X h1 h2 => InvF.step (n := m) (by omega) HE.out (HLL.out.symm ▸ h1) h2
    have hm6 : m ≤ 6 := by omega
    rw [HV.out, hV]
    rw [hok] at HS
    have hwm : IntKind.i64.wrap ((m : Int) + 1) = ((m + 1 : Nat) : Int) := by rw [IntWalk.i64_in _ (by omega)]; omega
    have hsh := shl_low (m + 1) (by omega)
    have hPb : 2 ^ (m + 1) ≤ 128 := by
      have := Nat.pow_le_pow_right (n := 2) (by omega) (show m + 1 ≤ 7 by omega)
      have e : 2 ^ 7 = 128 := by decide
      omega
    have hP1 : 1 ≤ 2 ^ (m + 1) := Nat.pow_pos (by omega)
    obtain ⟨P, hP⟩ : ∃ P, 2 ^ (m + 1) = P := ⟨_, rfl⟩
    rw [hP] at hsh hPb hP1 HI0
    have hsub : IntKind.u64.wrap ((P : Int) - 1) = ((P - 1 : Nat) : Int) := by rw [IntWalk.u64_in _ (by omega)]; omega
    clear hes hok hnet hV HV hP h6
    go_enter Try.func89, Try.ntmps89
    go_wp2_with fail
    refine (HS.out _ L0).mono ?_
    rintro e1 w1 ⟨rfl, hb1⟩
    have L1 := L0.step hb1 L0.lt
    clear c0 c1 s0 hb1 L0
    obtain ⟨_, _, c0, c1, s0⟩ := id L1
    go_wp2_with fail
    refine (HA.out _ L1).mono ?_
    rintro e2 w2 ⟨hb2, q, rfl, hq⟩
    have L2 := L1.step hb2 L1.lt
    have HQ := Lib.hid hq
    clear c0 c1 s0 hb2 L1 hq
    have A3 : ArrU (w2.alloc (.cells (arrUC q) 109)) (w.heap.size + 1) w2.heap.size q := ArrU.box w2 q (by have := L2.lt; omega)
    have L3 := L2.step ((Below.refl w2.heap.size w2).alloc (Nat.le_refl _) (.cells (arrUC q) 109)) L2.lt
    have gl : w.heap.size < w2.heap.size := L2.lt
    generalize hg : w2.heap.size = g at *
    unfold arrUC at A3 L3 ⊢
    obtain ⟨_, _, c0, c1, s0⟩ := id L3
    go_wp2_with fail
    go_loopw [6] (fun v wr => ∃ X : Nat, X ≤ P - 1 ∧ v = .int .u64 (X : Nat) ∧ Hid (InvF (endsL es) (fun i => t.testBit i) X) ∧ ArrU wr (w.heap.size + 1) g q ∧ ArgNet w wr m A cap es) (fun v _ => (intOf v).toNat)
    case atStart => exact ⟨P - 1, by omega, by first | rfl | (congr 1; omega) | go_num, HI0, A3, L3⟩
    case round =>
      clear A3 L3 c0 c1 s0
      obtain ⟨X, hXP, rfl, HI, A4, L4⟩ := hrel
      have hX : X < 128 := by omega
      have HI2 := Lib.hid (HIS.out q X HQ.out HI.out)
      have hle := keepM_le q X 7
      have hcall := Lib.hid (withArrows_any g X _ q wr A4 HQ.out.1 hX)
      have HV2 : Hid (keepM q X 7 = X → X ≠ 0 → V = true) := HV1.out q X HQ.out
      obtain ⟨Y, hY⟩ : ∃ Y, keepM q X 7 = Y := ⟨_, rfl⟩
      rw [hY] at HI2 hle hcall HV2
      clear hY
      by_cases hXY : Y = X
      · subst hXY
        by_cases h0 : Y = 0
        · have hVf : V = false := HV0.out (h0 ▸ HI.out)
          subst h0 hVf
          go_wp2_with fail
          refine hcall.out.mono ?_
          rintro e3 w3 ⟨rfl, hb3⟩
          have L5 := L4.step hb3 L4.lt
          go_wp2_with fail
          go_returns
          exact ⟨by first | rfl | simp, L5.below⟩
        · have hVt : V = true := HV2.out rfl h0
          have h01 : ¬ (Y : Int) = 0 := by omega
          have h02 : ((Y : Int) == 0) = false := by rw [beq_eq_false_iff_ne]; omega
          subst hVt
          clear h0
          go_wp2_with fail
          refine hcall.out.mono ?_
          rintro e3 w3 ⟨rfl, hb3⟩
          have L5 := L4.step hb3 L4.lt
          go_wp2_with fail
          go_returns
          exact ⟨by first | rfl | (simp; done) | (simp; omega), L5.below⟩
      · have h01 : ¬ (Y : Int) = (X : Int) := by omega
        have h02 : ((Y : Int) == (X : Int)) = false := by rw [beq_eq_false_iff_ne]; omega
        have hlt : Y < X := by omega
        clear hXY
        go_wp2_with fail
        refine hcall.out.mono ?_
        rintro e3 w3 ⟨rfl, hb3⟩
        have L5 := L4.step hb3 L4.lt
        have A5 := A4.next hb3
        go_wp2_with fail
        go_roundw
        case rel => exact ⟨Y, by omega, rfl, HI2, A5, L5⟩
        case measure => simp [intOf]; omega
end Go.Proofs.Ytdacfeebidhgnab

/- Chapter 10 of the program: CountNoBack. -/
namespace Go.Proofs.Ytdacfeebidhgnab
open Go.RowKit
set_option maxRecDepth 100000

/-- How often a function of arrows is true. -/
theorem countArrows_any (n : Int) (P : Nat) (F : FuncId) (caps : Array Value) (q : Nat → Bool) (A : Option Addr) (cap : Nat) (es : List (Int × Int)) (w : World) (hes : EdgesIn w w.heap.size A es) (h9 : es.length ≤ 9) (hP : 2 ^ es.length = P)
    (hF : ∀ (args : Array Value) (u : World), (callFunc F args).run Try.prog u = .ok (.enter F args) u)
    (HF : ∀ u, Below w.heap.size w u → ∀ k : Nat, k < P → Calls Try.prog F (#[.int .i64 (k : Nat)] ++ caps) u fun e w' => e = .returned (.bool (q k)) ∧ Below u.heap.size u w') :
    Calls Try.prog 87 #[.agg #[.int .i64 n, .slice A es.length cap], .func (.func F) #[] caps] w fun e w' => e = .returned (.int .i64 (cP q P : Nat)) ∧ Below w.heap.size w w' := by
  have hP5 : P ≤ 512 := by obtain ⟨P', h', h1, h2, -, -⟩ := pow_named h9; omega
  have L0 := ArgNet.start (cap := cap) (n := n) 25 hes
  have HSC : Hid (∀ u, ArgNet w u n A cap es → Calls Try.prog 64 #[.agg #[.int .i64 n, .slice A es.length cap]] u fun e w' => e = .returned (.int .i64 (P : Nat)) ∧ Below u.heap.size u w') := fun u h => by
    have := stateCount_any n A cap es u h9
    rw [hP] at this; exact this
  obtain ⟨_, _, c0, c1, s0⟩ := id L0
  have hlf : ∀ k, cP q k ≤ k := cP_le q
  clear hP h9 hes
  go_enter Try.func87, Try.ntmps87
  go_wp2_with fail
  refine (HSC.out _ L0).mono ?_
  rintro e1 w1 ⟨rfl, hb1⟩
  have L1 := L0.step hb1 L0.lt
  clear c0 c1 s0 hb1
  obtain ⟨_, _, c0, c1, s0⟩ := id L1
  clear L0 HSC
  go_wp2_with fail
  go_loopw [5, 9] (fun i j wr => ∃ k : Nat, k ≤ P ∧ i = .int .i64 (cP q k : Nat) ∧ j = .int .i64 (k : Nat) ∧ ArgNet w wr n A cap es) (fun _ j _ => P - (intOf j).toNat)
  case atStart => exact ⟨0, by omega, by simp [cP], rfl, L1⟩
  case round =>
    clear L1 c0 c1 s0
    obtain ⟨k, hk, rfl, rfl, L⟩ := hrel
    have hc := hlf k
    by_cases hkP : k < P
    · have HFk := Lib.hid (HF wr L.below k hkP)
      cases hq : q k with
      | true =>
        have hn : Hid (cP q (k + 1) = cP q k + 1) := cP_hit hq
        rw [hq] at HFk
        clear HF hlf hq
        generalize cP q k = z at *
        go_wp2_with fail
        refine HFk.out.mono ?_
        rintro e2 w2 ⟨rfl, hb2⟩
        have L2 := L.step hb2 L.lt
        go_wp2_with fail
        go_roundw
        case rel => exact ⟨k + 1, by omega, by rw [hn.out]; go_num, by go_num, L2⟩
        case measure => simp [intOf]; omega
      | false =>
        have hn : Hid (cP q (k + 1) = cP q k) := cP_miss hq
        rw [hq] at HFk
        clear HF hlf hq
        generalize cP q k = z at *
        go_wp2_with fail
        refine HFk.out.mono ?_
        rintro e2 w2 ⟨rfl, hb2⟩
        have L2 := L.step hb2 L.lt
        go_wp2_with fail
        go_roundw
        case rel => exact ⟨k + 1, by omega, by rw [hn.out], by go_num, L2⟩
        case measure => simp [intOf]; omega
    · obtain rfl : k = P := by omega
      go_wp2_with fail
      go_returns
      exact ⟨rfl, L.below⟩

theorem noBackFn_any (n : Int) (s : Nat) (A : Option Addr) (cap : Nat) (es : List (Int × Int)) (w u : World) (hl : es.length ≤ 1048576) (hs : stateOkB n es s = true) (L : ArgNet w u n A cap es) :
    Calls Try.prog 88 #[.int .i64 s, .pointer (some ⟨w.heap.size, 0, none⟩)] u fun e w' => e = .returned (.bool (noBackQ es s)) ∧ Below u.heap.size u w' := by
  have HC : Hid (Calls Try.prog 89 #[.agg #[.int .i64 n, .slice A es.length cap], .int .i64 s] u fun e w' => e = .returned (.bool (backV (endsL es) s)) ∧ Below u.heap.size u w') := by
    have := backOk_any n s A cap es u L.edges hl
    unfold backB at this
    rwa [hs, Bool.true_and, Int.toNat_natCast] at this
  have hT : noBackQ es s = !backV (endsL es) s := rfl
  rw [hT]
  obtain ⟨_, _, c0, c1, s0⟩ := id L
  generalize backV (endsL es) s = v at *
  clear hs hT hl
  go_enter Try.func88, Try.ntmps88
  go_wp2_with fail
  refine HC.out.mono ?_
  rintro e1 w1 ⟨rfl, hb1⟩
  go_wp2_with fail
  go_returns
  exact ⟨by first | rfl | simp, hb1⟩

set_option maxHeartbeats 4000000 in
theorem countNoBack_any (n : Int) (A : Option Addr) (cap : Nat) (es : List (Int × Int)) (w : World) (hes : EdgesIn w w.heap.size A es) (hl : es.length ≤ 1048576) :
    Calls Try.prog 27 #[.agg #[.int .i64 n, .slice A es.length cap]] w fun e w' => e = .returned (.int .i64 (noBackI n es)) ∧ Below w.heap.size w w' := by
  have hmf : ∀ (fn : Fn) (first cap : Array Value) (w : World), (Instr.makeFunc fn first cap).run Try.prog w = .ok (.func fn first cap) w := fun _ _ _ _ => rfl
  have L0 := ArgNet.start (cap := cap) (n := n) 25 hes
  have HN : Hid (∀ u, ArgNet w u n A cap es → Calls Try.prog 31 #[.agg #[.int .i64 n, .slice A es.length cap]] u fun e w' => e = .returned (.bool (netOkB n es)) ∧ Below u.heap.size u w') := fun u h => netOk_any n A cap es u h.edges hl
  obtain ⟨_, _, c0, c1, s0⟩ := id L0
  cases hn : netOkB n es with
  | false =>
    have HV : Hid (noBackI n es = -1) := if_neg (by rw [hn]; simp)
    rw [HV.out]
    rw [hn] at HN
    clear hes hn
    go_enter Try.func27, Try.ntmps27
    go_wp2_with fail
    refine (HN.out _ L0).mono ?_
    rintro e1 w1 ⟨rfl, hb1⟩
    have L1 := L0.step hb1 L0.lt
    go_wp2_with fail
    go_returns
    exact ⟨by first | rfl | simp, L1.below⟩
  | true =>
    have h9 := (netOkB_iff.1 hn).2.1
    have HV : Hid (noBackI n es = (cP (noBackQ es) (2 ^ es.length) : Nat)) := if_pos hn
    have HSUM : Hid (∀ u, ArgNet w u n A cap es → Calls Try.prog 87 #[.agg #[.int .i64 n, .slice A es.length cap], .func (.func 88) #[] #[.pointer (some ⟨w.heap.size, 0, none⟩)]] u fun e w' => e = .returned (.int .i64 (cP (noBackQ es) (2 ^ es.length) : Nat)) ∧ Below u.heap.size u w') := fun u h =>
      countArrows_any n _ 88 #[.pointer (some ⟨w.heap.size, 0, none⟩)] (noBackQ es) A cap es u h.edges h9 rfl (fun _ _ => rfl) (fun v hv k hk => noBackFn_any n k A cap es w v hl (state_of hn hk) (h.on _ hv))
    rw [HV.out]
    rw [hn] at HN
    generalize cP (noBackQ es) (2 ^ es.length) = z at *
    clear hes hn HV
    go_enter Try.func27, Try.ntmps27
    go_wp2_with fail
    refine (HN.out _ L0).mono ?_
    rintro e1 w1 ⟨rfl, hb1⟩
    have L1 := L0.step hb1 L0.lt
    clear c0 c1 s0
    obtain ⟨_, _, c0, c1, s0⟩ := id L1
    go_wp2_with fail
    refine (HSUM.out _ L1).mono ?_
    rintro e3 w3 ⟨rfl, hb3⟩
    have L3 := L1.step hb3 L1.lt
    go_wp2_with fail
    go_returns
    exact ⟨by first | rfl | simp, L3.below⟩
end Go.Proofs.Ytdacfeebidhgnab
