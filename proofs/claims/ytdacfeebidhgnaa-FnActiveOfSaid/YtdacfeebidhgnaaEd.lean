/- Plain lists of edges in memory: what it means that a slice of edges reads as a list, and how that is kept. -/
import Derived.WalkKit
import Derived.Handy
import Derived.Lib.Hide
import Derived.Deep.Draws
import Derived.Deep.QuietTactic
import Derived.BigQuiet
namespace Go.Proofs.Ytdacfeebidhgnaa
open Go.RowKit
set_option maxRecDepth 100000

/-- The slice whose head is 'A' reads, below block B, as the list of edges. -/
def EdgesIn (w : World) (B : Nat) (A : Option Addr) (es : List (Int × Int)) : Prop :=
  ∀ k e, es[k]? = some e → ∃ b off, A = some ⟨b, off, none⟩ ∧ b < B ∧
    w.cell? ⟨b, off + k * 2, none⟩ = some (.int .i64 e.1) ∧ w.cell? ⟨b, off + k * 2 + 1, none⟩ = some (.int .i64 e.2)

theorem EdgesIn.nil {w : World} {B : Nat} {A : Option Addr} : EdgesIn w B A [] := fun k e h => by simp at h
theorem EdgesIn.below {w w' : World} {B B' : Nat} {A : Option Addr} {es : List (Int × Int)} (h : EdgesIn w B A es) (hb : Below B' w w') (hB : B ≤ B') : EdgesIn w' B A es :=
  fun k e hk => by
    obtain ⟨b, off, hA, hlt, h1, h2⟩ := h k e hk
    exact ⟨b, off, hA, hlt, (hb.cell (p := ⟨b, _, none⟩) (by simp; omega)).trans h1, (hb.cell (p := ⟨b, _, none⟩) (by simp; omega)).trans h2⟩
theorem EdgesIn.alloc {w : World} {B : Nat} {A : Option Addr} {es : List (Int × Int)} (h : EdgesIn w B A es) (hB : B ≤ w.heap.size) (o : Obj) : EdgesIn (w.alloc o) B A es :=
  h.below ((Below.refl B w).alloc hB o) (Nat.le_refl _)
theorem EdgesIn.more {w : World} {B B' : Nat} {A : Option Addr} {es : List (Int × Int)} (h : EdgesIn w B A es) (hB : B ≤ B') : EdgesIn w B' A es :=
  fun k e hk => by
    obtain ⟨b, off, hA, hlt, h1, h2⟩ := h k e hk
    exact ⟨b, off, hA, by omega, h1, h2⟩

def fitsB (n : Int) (e : Int × Int) : Bool := decide (1 ≤ e.1) && (decide (e.1 < e.2) && decide (e.2 ≤ n))
/-- What NetOk says. -/
def netOkB (n : Int) (es : List (Int × Int)) : Bool := decide (2 ≤ n) && (decide (n ≤ 6) && (decide (es.length ≤ 9) && es.all (fitsB n)))
theorem all_take_succ {α : Type} {l : List α} {k : Nat} (h : k < l.length) (p : α → Bool) : (l.take (k + 1)).all p = ((l.take k).all p && p l[k]) := by
  rw [List.take_succ_eq_append_getElem h, List.all_append]; simp
def eqEB (e f : Int × Int) : Bool := decide (e = f)
theorem eqEB_t {e f : Int × Int} (h : eqEB e f = true) : e = f := by simpa [eqEB] using h
theorem eqEB_f {e f : Int × Int} (h : eqEB e f = false) : ¬ e = f := by simpa [eqEB] using h
def eqEsB (e f : List (Int × Int)) : Bool := decide (e = f)
theorem eqEsB_t {e f : List (Int × Int)} (h : eqEsB e f = true) : e = f := by simpa [eqEsB] using h
theorem eqEsB_f {e f : List (Int × Int)} (h : eqEsB e f = false) : ¬ e = f := by simpa [eqEsB] using h
def netEqB (n m : Int) (e f : List (Int × Int)) : Bool := decide (n = m) && decide (e = f)
theorem netEqB_self (n : Int) (e : List (Int × Int)) : netEqB n n e e = true := by simp [netEqB]
theorem belowN {B : Nat} {a w : World} (h : Below B a w) (n : Nat) : Below B a (w.drewN n) := ⟨h.os, h.tape, h.output, h.size, h.block⟩
theorem oldCell {u v : World} (h : Below u.heap.size u v) (b o : Nat) (hb : b < u.heap.size) : v.cell? ⟨b, o, none⟩ = u.cell? ⟨b, o, none⟩ := h.cell (p := ⟨b, o, none⟩) hb
theorem oldMark {u v : World} (h : Below u.heap.size u v) (b o : Nat) (hb : b < u.heap.size) : v.frozen? ⟨b, o, none⟩ = u.frozen? ⟨b, o, none⟩ := h.frozen (p := ⟨b, o, none⟩) hb
theorem retI {x y : Int} (h : x = y) : Ending.returned (.int .i64 x) = .returned (.int .i64 y) := congrArg (fun z => Ending.returned (.int .i64 z)) h
theorem retB {x y : Bool} (h : x = y) : Ending.returned (.bool x) = .returned (.bool y) := congrArg (fun z => Ending.returned (.bool z)) h
theorem not_t {b : Bool} (h : (!b) = true) : b = false := by simpa using h
theorem not_f {b : Bool} (h : (!b) = false) : b = true := by simpa using h

/-- The cells of a list of edges. -/
def flat (es : List (Int × Int)) : List Value := es.flatMap fun e => [.int .i64 e.1, .int .i64 e.2]
theorem flat_length (es : List (Int × Int)) : (flat es).length = es.length * 2 := by
  induction es with
  | nil => rfl
  | cons e es ih => simp [flat] at ih ⊢; omega
theorem flat_append (es fs : List (Int × Int)) : flat (es ++ fs) = flat es ++ flat fs := by simp [flat]
theorem flat_cons (e : Int × Int) (es : List (Int × Int)) : flat (e :: es) = .int .i64 e.1 :: .int .i64 e.2 :: flat es := by simp [flat]
theorem flat_get (es : List (Int × Int)) : ∀ (k : Nat) (e : Int × Int), es[k]? = some e → (flat es)[k * 2]? = some (.int .i64 e.1) ∧ (flat es)[k * 2 + 1]? = some (.int .i64 e.2) := by
  induction es with
  | nil => intro k e h; simp at h
  | cons a es ih =>
    intro k e h
    cases k with
    | zero => simp at h; subst h; simp [flat_cons]
    | succ k => simp at h; have := ih k e h; rw [flat_cons]; exact ⟨by rw [Nat.succ_mul]; simpa using this.1, by rw [Nat.succ_mul]; simpa using this.2⟩
theorem flat_set (es : List (Int × Int)) : ∀ (k : Nat) (e : Int × Int), flat (es.set k e) = ((flat es).set (k * 2) (.int .i64 e.1)).set (k * 2 + 1) (.int .i64 e.2) := by
  induction es with
  | nil => intro k e; simp [flat]
  | cons a es ih =>
    intro k e
    cases k with
    | zero => simp [flat_cons]
    | succ k => simp [flat_cons, ih, Nat.succ_mul]
theorem flat_replicate (n : Nat) : flat (List.replicate n (0, 0)) = List.replicate (n * 2) (.int .i64 0) := by
  induction n with
  | zero => rfl
  | succ n ih => rw [List.replicate_succ, flat_cons, ih, Nat.succ_mul]; rfl
theorem madeCells_edges (n : Nat) : (madeCells #[.int .i64 0, .int .i64 0] (n * 2)).toList = flat (List.replicate n (0, 0)) := by
  rw [flat_replicate]
  apply List.ext_getElem?
  intro j
  by_cases hj : j < n * 2
  · have h2 : j % 2 = 0 ∨ j % 2 = 1 := by omega
    rcases h2 with h | h <;> simp [madeCells, hj, h]
  · simp [madeCells, hj]

/-- The slice v, of the call's own from block 'base' on, holds the list of edges. -/
def OwnE (w : World) (base : Nat) (v : Value) (es : List (Int × Int)) : Prop := w.ownsRow base 57 2 v es.length (flat es)
theorem OwnE.nil (w : World) (base : Nat) : OwnE w base (.slice none 0 0) [] := World.ownsRow_nil _ _ _ _
theorem OwnE.form {w : World} {base : Nat} {v : Value} {es : List (Int × Int)} (h : OwnE w base v es) :
    (v = .slice none 0 0 ∧ es = []) ∨ ∃ g cap, v = .slice (some ⟨g, 0, none⟩) es.length cap ∧ base ≤ g ∧ g < w.heap.size := by
  rcases h.2 with ⟨rfl, h0⟩ | ⟨g, cap, cur, rfl, hb, hh, _⟩
  · exact .inl ⟨rfl, List.eq_nil_of_length_eq_zero h0⟩
  · refine .inr ⟨g, cap, rfl, hb, ?_⟩
    rcases Nat.lt_or_ge g w.heap.size with hlt | hge
    · exact hlt
    · rw [Array.getElem?_eq_none hge] at hh; cases hh
theorem OwnE.edges {w : World} {base n c : Nat} {A : Option Addr} {es : List (Int × Int)} (h : OwnE w base (.slice A n c) es) : EdgesIn w w.heap.size A es := by
  intro k e hk
  have hlt : k < es.length := (List.getElem?_eq_some_iff.1 hk).1
  rcases h.form with ⟨_, rfl⟩ | ⟨g, cap, hv, _, hg⟩
  · simp at hk
  · injection hv with hA hn hc
    subst hA hn hc
    have hf := flat_get es k e hk
    refine ⟨g, 0, rfl, hg, ?_, ?_⟩
    · rw [World.ownsRow.cellAt h _ (by omega), Nat.zero_add]; exact hf.1
    · rw [World.ownsRow.cellAt h _ (by omega), Nat.zero_add]; exact hf.2
theorem OwnE.len {w : World} {base n c : Nat} {A : Option Addr} {es : List (Int × Int)} (h : OwnE w base (.slice A n c) es) : n = es.length := by
  rcases h.form with ⟨hv, rfl⟩ | ⟨g, cap, hv, _⟩
  · injection hv with _ h2 _
  · injection hv with _ h2 _
theorem OwnE.below {w w' : World} {base B : Nat} {v : Value} {es : List (Int × Int)} (h : OwnE w base v es) (hb : Below B w w') (hB : ∀ k, v.ownBlock = some k → k < B) : OwnE w' base v es := by
  rcases h.2 with ⟨rfl, h0⟩ | ⟨g, cap, cur, rfl, hb', hh, h3, h4, h5, h6⟩
  · exact ⟨h.1, .inl ⟨rfl, h0⟩⟩
  · exact ⟨h.1, .inr ⟨g, cap, cur, rfl, hb', (hb.block g (hB g rfl)).trans hh, h3, h4, h5, h6⟩⟩
theorem OwnE.far {w : World} {base : Nat} {v : Value} {es : List (Int × Int)} (h : OwnE w base v es) {p : Addr} (hp : ∀ k, v.ownBlock = some k → k ≠ p.block) (u : Value) : OwnE (w.setCell p u) base v es := by
  rcases h.2 with ⟨rfl, h0⟩ | ⟨g, cap, cur, rfl, hb', hh, h3, h4, h5, h6⟩
  · exact ⟨h.1, .inl ⟨rfl, h0⟩⟩
  · exact ⟨h.1, .inr ⟨g, cap, cur, rfl, hb', (Below.heap_setCell _ _ _ _ (hp g rfl)).trans hh, h3, h4, h5, h6⟩⟩
theorem OwnE.ge {w : World} {base g n c : Nat} {es : List (Int × Int)} (h : OwnE w base (.slice (some ⟨g, 0, none⟩) n c) es) : base ≤ g := (World.ownsRow.lt h g rfl).1
theorem OwnE.lt {w : World} {base : Nat} {v : Value} {es : List (Int × Int)} (h : OwnE w base v es) : ∀ k, v.ownBlock = some k → k < w.heap.size :=
  fun k hk => (World.ownsRow.lt h k hk).2
theorem OwnE.more {w : World} {base base' : Nat} {v : Value} {es : List (Int × Int)} (h : OwnE w base v es) (hB : base' ≤ base) : OwnE w base' v es := by
  rcases h.2 with ⟨rfl, h0⟩ | ⟨g, cap, cur, rfl, hb', hh⟩
  · exact ⟨h.1, .inl ⟨rfl, h0⟩⟩
  · exact ⟨h.1, .inr ⟨g, cap, cur, rfl, by omega, hh⟩⟩

theorem OwnE.slot {w : World} {base g n c : Nat} {es : List (Int × Int)} (h : OwnE w base (.slice (some ⟨g, 0, none⟩) n c) es) {k : Nat} (hk : k < n) :
    ∃ x y, es[k]? = some (x, y) ∧ w.cell? ⟨g, k * 2, none⟩ = some (.int .i64 x) ∧ w.cell? ⟨g, k * 2 + 1, none⟩ = some (.int .i64 y) ∧ w.frozen? ⟨g, k * 2, none⟩ = false ∧ w.frozen? ⟨g, k * 2 + 1, none⟩ = false := by
  obtain rfl := h.len
  have hf := flat_get es k _ (List.getElem?_eq_getElem hk)
  exact ⟨es[k].1, es[k].2, List.getElem?_eq_getElem hk, (World.ownsRow.cellAt h _ (by omega)).trans hf.1, (World.ownsRow.cellAt h _ (by omega)).trans hf.2, World.ownsRow.frozenAt h _, World.ownsRow.frozenAt h _⟩
theorem OwnE.store {w : World} {base g n c : Nat} {es : List (Int × Int)} (h : OwnE w base (.slice (some ⟨g, 0, none⟩) n c) es) (k : Nat) (x y : Int) :
    OwnE ((w.setCell ⟨g, k * 2, none⟩ (.int .i64 x)).setCell ⟨g, k * 2 + 1, none⟩ (.int .i64 y)) base (.slice (some ⟨g, 0, none⟩) n c) (es.set k (x, y)) := by
  obtain rfl := h.len
  have h1 := (World.ownsRow.stored h (k * 2) (.int .i64 x)).1
  have h2 := (World.ownsRow.stored h1 (k * 2 + 1) (.int .i64 y)).1
  unfold OwnE
  rw [flat_set, List.length_set]
  exact h2
theorem take_set_succ {α : Type} {l m : List α} {k : Nat} (hk : k < l.length) (hm : k < m.length) (h : l.take k = m.take k) : (l.set k m[k]).take (k + 1) = m.take (k + 1) := by
  apply List.ext_getElem?
  intro j
  have hj := congrArg (fun l => l[j]?) h
  simp only [List.getElem?_take, List.getElem?_set] at hj ⊢
  rcases Nat.lt_trichotomy j k with h1 | h1 | h1
  · simp only [h1, if_true] at hj
    simp only [show j < k + 1 by omega, show ¬ k = j by omega, if_true, if_false]; exact hj
  · subst h1; simp [hk, hm]
  · simp only [show ¬ j < k + 1 by omega, if_false]

/-- How many bits are 1. -/
def popF : Nat → Nat → Nat
  | 0, _ => 0
  | f + 1, s => s % 2 + popF f (s / 2)
def pop (s : Nat) : Nat := popF 64 s
theorem popF_zero : ∀ f, popF f 0 = 0
  | 0 => rfl
  | f + 1 => by simp [popF, popF_zero f]
theorem popF_succ : ∀ f s, s < 2 ^ f → popF (f + 1) s = popF f s
  | 0, s, h => by simp at h; subst h; rfl
  | f + 1, s, h => by rw [popF, popF_succ f (s / 2) (by rw [Nat.pow_succ] at h; omega)]; rfl
theorem pop_step (s : Nat) (h : s < 18446744073709551616) : pop s = s % 2 + pop (s / 2) := by
  have : popF 64 (s / 2) = popF 63 (s / 2) := popF_succ 63 _ (by omega)
  unfold pop; rw [this]; rfl
theorem pop_zero : pop 0 = 0 := popF_zero 64
theorem popF_le : ∀ f s, popF f s ≤ f
  | 0, _ => Nat.le_refl _
  | f + 1, s => by have := popF_le f (s / 2); simp only [popF]; omega
theorem pop_le (s : Nat) : pop s ≤ 64 := popF_le _ _

/-- What StateOk says. -/
def stateOkB (n : Int) (es : List (Int × Int)) (s : Int) : Bool := netOkB n es && (decide (0 ≤ s) && decide (s < 2 ^ es.length))
def thereI (n : Int) (es : List (Int × Int)) (s : Int) : Int := if stateOkB n es s = true then pop s.toNat else -1
theorem netOkB_iff {n : Int} {es : List (Int × Int)} : netOkB n es = true ↔ (2 ≤ n ∧ n ≤ 6) ∧ es.length ≤ 9 ∧ ∀ e ∈ es, 1 ≤ e.1 ∧ e.1 < e.2 ∧ e.2 ≤ n := by
  simp [netOkB, fitsB, and_assoc]
theorem pow_le (l : Nat) (h : l ≤ 9) : (1 : Int) ≤ 2 ^ l ∧ (2 : Int) ^ l ≤ 512 := by
  have : l = 0 ∨ l = 1 ∨ l = 2 ∨ l = 3 ∨ l = 4 ∨ l = 5 ∨ l = 6 ∨ l = 7 ∨ l = 8 ∨ l = 9 := by omega
  rcases this with rfl | rfl | rfl | rfl | rfl | rfl | rfl | rfl | rfl | rfl <;> decide

/-- A law's own net: what its box and its edges still are in a later world. -/
structure ArgNet (w w1 : World) (n : Int) (A : Option Addr) (cap : Nat) (es : List (Int × Int)) : Prop where
  at_ : EdgesIn w1 w.heap.size A es
  below : Below w.heap.size w w1
  c0 : w1.cell? ⟨w.heap.size, 0, none⟩ = some (.int .i64 n)
  c1 : w1.cell? ⟨w.heap.size, 1, none⟩ = some (.slice A es.length cap)
  lt : w.heap.size < w1.heap.size
theorem ArgNet.start {w : World} {n : Int} {A : Option Addr} {cap : Nat} {es : List (Int × Int)} (t : TypeId) (h : EdgesIn w w.heap.size A es) :
    ArgNet w (w.alloc (.cells #[.int .i64 n, .slice A es.length cap] t)) n A cap es :=
  ⟨h.alloc (Nat.le_refl _) _, (Below.refl _ _).alloc (Nat.le_refl _) _, by rw [World.cell?_alloc_at _ _ _ _ rfl]; rfl, by rw [World.cell?_alloc_at _ _ _ _ rfl]; rfl, by simp⟩
theorem ArgNet.step {w w1 w2 : World} {n : Int} {A : Option Addr} {cap B : Nat} {es : List (Int × Int)} (h : ArgNet w w1 n A cap es) (hb : Below B w1 w2) (hB : w.heap.size < B) : ArgNet w w2 n A cap es :=
  ⟨h.at_.below hb (by omega), h.below.trans (hb.mono (by omega)), (hb.cell (p := ⟨w.heap.size, 0, none⟩) hB).trans h.c0, (hb.cell (p := ⟨w.heap.size, 1, none⟩) hB).trans h.c1, by have := h.lt; have := hb.size; omega⟩
theorem ArgNet.drew {w w1 : World} {n : Int} {A : Option Addr} {cap : Nat} {es : List (Int × Int)} (h : ArgNet w w1 n A cap es) : ArgNet w w1.drew n A cap es :=
  h.step ((Below.refl (w.heap.size + 1) w1).drew) (by omega)
theorem ArgNet.edges {w w1 : World} {n : Int} {A : Option Addr} {cap : Nat} {es : List (Int × Int)} (h : ArgNet w w1 n A cap es) : EdgesIn w1 w1.heap.size A es := h.at_.more (by have := h.lt; omega)

/-- What comes back is a new row with these edges; what was there is as it was. -/
def MadeEdges (w : World) (es : List (Int × Int)) (e : Ending) (w' : World) : Prop :=
  ∃ g, e = .returned (.slice (some ⟨g, 0, none⟩) es.length es.length) ∧ OwnE w' w.heap.size (.slice (some ⟨g, 0, none⟩) es.length es.length) es ∧ Below w.heap.size w w'
def MadeNet (w : World) (n : Int) (es : List (Int × Int)) (e : Ending) (w' : World) : Prop :=
  ∃ g, e = .returned (.agg #[.int .i64 n, .slice (some ⟨g, 0, none⟩) es.length es.length]) ∧ OwnE w' w.heap.size (.slice (some ⟨g, 0, none⟩) es.length es.length) es ∧ Below w.heap.size w w'
end Go.Proofs.Ytdacfeebidhgnaa

/- A region that draws its order, whose operations read, and whose callees make memory but turn nothing that a class of worlds knows: one walk in the text's order. -/
namespace Go.Proofs.Ytdacfeebidhgnaa
open Go.RowKit
set_option maxRecDepth 100000

/-- The class D, as all values of a function f. -/
theorem wp_region_class {P : Program} {id : Nat} {Q : Exit → Act → World → Prop} {a : Act} {w : World} {l : List Oper} (D : World → Prop) (hm : P.follows .mixedOrders = true) (hB : Region.lexB .any l.toArray = true) (hD : D w.drew)
    (h : ∀ (X : Type) (_ : Nonempty X) (f : X → World), (∀ x, D (f x)) → (∀ u, D u → ∃ x, u = f x) → wpQuiet P l.toArray (fun w' => ∃ x, w' = f x) (fun a' => ∀ w', (∃ x, w' = f x) → Q .normal a' w') l a) : (Code.region id l.toArray true).wp P Q a w :=
  wp_region_quiet (C := fun w' => ∃ x : {u // D u}, w' = x.1) hm hB ⟨⟨_, hD⟩, rfl⟩ (by simpa using h {u // D u} ⟨⟨_, hD⟩⟩ (fun x => x.1) (fun x => x.2) (fun u hu => ⟨⟨u, hu⟩, rfl⟩))
theorem class_of {P : Program} {D : World → Prop} {X : Type} {f : X → World} {fn : FuncId} {args : Array Value} {x : X} {v : Value} (hex : ∀ u, D u → ∃ x, u = f x) (h : Calls P fn args (f x) fun e w' => e = .returned v ∧ Below (f x).heap.size (f x) w')
    (hD : ∀ w', Below (f x).heap.size (f x) w' → D w') : Calls P fn args (f x) fun e w' => e = .returned v ∧ ∃ y, w' = f y :=
  h.mono fun _ w' ⟨he, hb⟩ => ⟨he, hex w' (hD w' hb)⟩
theorem class_same {P : Program} {X : Type} {f : X → World} {fn : FuncId} {args : Array Value} {x : X} {v : Value} (h : Calls P fn args (f x) fun e w' => e = .returned v ∧ f x = w') :
    Calls P fn args (f x) fun e w' => e = .returned v ∧ ∃ y, w' = f y :=
  h.mono fun _ _ ⟨he, hb⟩ => ⟨he, x, hb.symm⟩
/-- The class of a law's own net is closed under calls that only make memory. -/
theorem ArgNet.on {w u : World} {n : Int} {A : Option Addr} {cap : Nat} {es : List (Int × Int)} (h : ArgNet w u n A cap es) : ∀ w', Below u.heap.size u w' → ArgNet w w' n A cap es := fun _ hb => h.step hb h.lt
end Go.Proofs.Ytdacfeebidhgnaa
