/- Families in memory: a law's argument opened. -/
import Derived.Test.YtmdmmebekicpkaaObj
import Derived.Test.YtmdmmebekicpkaaOpenRow
import Derived.Test.YtmdmmebekicpkaaFamL
import Derived.Test.YtmdmmebekicpkaaVal8
import Derived.Test.YtmdmmebekicpkaaConcatI
namespace Go.Proofs.Ytmdmmebekicpkaa
open Go.ChangeShapes Go.WideShapes Go.ChangeAt Go.RowKit Go.Deep Go.Joins
set_option linter.unusedVariables false
set_option maxRecDepth 100000

theorem open_family {H : Type} {enc : TypeId × Value → H} {w : World} {base : Nat} {r : Go.Reach} {b0 : Nat} {v : Value} {d : DataW H} {p : List MemPlace}
    (hv : Value.okWide Try.prog w r b0 41 v) (h : DataW.Trod enc Try.prog w base (fun _ => true) true 41 v d p) :
    ∃ (n : Int) (A : Option Addr) (cap : Nat) (xs : List Int), v = .agg #[.int .i64 n, .slice A xs.length cap] ∧ IntsIn w w.heap.size A xs ∧ xs.length ≤ maxLen ∧ (Lit.int .i64 n).wf = true := by
  obtain ⟨v0, v1, y0, y1, m, rfl, _, _, h0, h1⟩ := open_agg2 Try.underlying41 (by kernel_rfl) (by kernel_rfl) hv h
  obtain ⟨n, e0, _, wf⟩ := DataW.trod_int Try.underlying3 h0
  injection e0 with e0
  subst e0
  rcases open_ints Try.underlying23 Try.underlying3 (by kernel_rfl) h1 with ⟨hcs, _⟩ | ⟨x, l, c, zs, hcs, _, hl, hm, hz, _, hcell, _⟩
  · injection hcs with hcs
    subst hcs
    exact ⟨n, none, 0, [], rfl, IntsIn.nil, by simp [maxLen], wf⟩
  · injection hcs with hcs
    subst hcs
    simp only [if_true] at hz
    have hlen : (zs.take l).length = l := by rw [List.length_take]; omega
    refine ⟨n, some x, c, zs.take l, by rw [hlen], fun k y hk => ?_, by rw [hlen]; omega, wf⟩
    have hkl : k < l := by have := (List.getElem?_eq_some_iff.1 hk).1; omega
    obtain ⟨b, off, spot⟩ := x
    have hs : spot = none := by simpa [Addr.add] using World.cell?_spot (hcell 0 (by omega))
    subst hs
    have hc := hcell k (by omega)
    rw [add_plain] at hc
    have hy : zs.getD k 0 = y := by
      rw [List.getElem?_take_of_lt hkl] at hk
      rw [List.getD_eq_getElem?_getD, hk]; rfl
    rw [hy] at hc
    exact ⟨b, off, rfl, World.block_lt_of_cell? w _ hc, hc⟩
end Go.Proofs.Ytmdmmebekicpkaa

/- A law's families in memory: its arguments in their boxes, and families of its own. -/
namespace Go.Proofs.Ytmdmmebekicpkaa
open Go.RowKit
set_option maxRecDepth 100000

/-- An argument's box, in a later world. -/
structure FamArg (w u : World) (bx : Nat) (t : Int) (A : Option Addr) (m c : Nat) (xs : List Int) : Prop where
  c0 : u.cell? ⟨bx, 0, none⟩ = some (.int .i64 t)
  c1 : u.cell? ⟨bx, 1, none⟩ = some (.slice A m c)
  row : IntsIn u w.heap.size A xs
  below : Below w.heap.size w u
  ge : w.heap.size ≤ bx
  lt : bx < u.heap.size
section
variable {w u u' : World} {bx : Nat} {t : Int} {A : Option Addr} {m c : Nat} {xs : List Int}
theorem FamArg.next (h : FamArg w u bx t A m c xs) (hb : Below u.heap.size u u') : FamArg w u' bx t A m c xs :=
  ⟨(hb.cell (p := ⟨bx, 0, none⟩) h.lt).trans h.c0, (hb.cell (p := ⟨bx, 1, none⟩) h.lt).trans h.c1, h.row.below hb (by have := h.ge; have := h.lt; omega), h.below.trans (hb.mono h.below.size), h.ge, Nat.lt_of_lt_of_le h.lt hb.size⟩
theorem FamArg.ints (h : FamArg w u bx t A m c xs) : IntsIn u u.heap.size A xs := h.row.more h.below.size
theorem FamArg.drew (h : FamArg w u bx t A m c xs) : FamArg w u.drew bx t A m c xs := h.next ((Below.refl _ _).drew)
theorem FamArg.alloc (h : FamArg w u bx t A m c xs) (o : Obj) : FamArg w (u.alloc o) bx t A m c xs := h.next ((Below.refl _ _).alloc (Nat.le_refl _) o)
theorem FamArg.grown {r : Option Nat} (h : FamArg w u bx t A m c xs) (hg : u.grownBy u' r) (hr : ∀ j, r = some j → bx < j) : FamArg w u' bx t A m c xs := by
  have hb : Below (bx + 1) u u' := ⟨hg.os, hg.tape, hg.output, hg.size, fun k hk => hg.block k (by have := h.lt; omega) (fun e => by have := hr k e.symm; omega)⟩
  have hlt := h.lt
  have hge := h.ge
  exact ⟨(hb.cell (p := ⟨bx, 0, none⟩) (by simp)).trans h.c0, (hb.cell (p := ⟨bx, 1, none⟩) (by simp)).trans h.c1, h.row.below hb (by omega), h.below.trans (hb.mono (by omega)), h.ge, Nat.lt_of_lt_of_le h.lt hb.size⟩
theorem FamArg.start (ty : TypeId) (h : IntsIn w w.heap.size A xs) : FamArg w (w.alloc (.cells #[.int .i64 t, .slice A m c] ty)) w.heap.size t A m c xs :=
  ⟨by rw [World.cell?_alloc_at _ _ _ _ rfl]; rfl, by rw [World.cell?_alloc_at _ _ _ _ rfl]; rfl, h.alloc (Nat.le_refl _) _, (Below.refl _ _).alloc (Nat.le_refl _) _, Nat.le_refl _, by simp⟩
theorem FamArg.start2 (ty : TypeId) (o : Obj) (h : IntsIn w w.heap.size A xs) : FamArg w ((w.alloc o).alloc (.cells #[.int .i64 t, .slice A m c] ty)) (w.heap.size + 1) t A m c xs :=
  ⟨by rw [World.cell?_alloc_at _ _ _ _ (by simp)]; rfl, by rw [World.cell?_alloc_at _ _ _ _ (by simp)]; rfl, (h.alloc (Nat.le_refl _) o).alloc (by simp) _, ((Below.refl _ _).alloc (Nat.le_refl _) _).alloc (by simp) _, by omega, by simp⟩

/-- A family in a box (block bx) of the law's own: box and row in blocks from lo on, before hi. -/
structure FamObj (u : World) (lo hi bx : Nat) (t : Int) (A : Option Addr) (m c : Nat) (xs : List Int) : Prop where
  own : OwnI u lo (.slice A m c) xs
  c0 : u.cell? ⟨bx, 0, none⟩ = some (.int .i64 t)
  c1 : u.cell? ⟨bx, 1, none⟩ = some (.slice A m c)
  bl : lo ≤ bx
  bh : bx < hi
  hh : hi ≤ u.heap.size
  row : ∀ j, (Value.slice A m c).ownBlock = some j → lo ≤ j ∧ j < hi ∧ j ≠ bx
theorem FamObj.lt {lo hi : Nat} (h : FamObj u lo hi bx t A m c xs) : bx < u.heap.size := Nat.lt_of_lt_of_le h.bh h.hh
theorem FamObj.start {lo : Nat} (ty : TypeId) (hlo : lo ≤ u.heap.size) (own : OwnI u lo (.slice A m c) xs) : FamObj (u.alloc (.cells #[.int .i64 t, .slice A m c] ty)) lo (u.heap.size + 1) u.heap.size t A m c xs :=
  ⟨own.below ((Below.refl u.heap.size u).alloc (Nat.le_refl _) _) own.lt, by rw [World.cell?_alloc_at _ _ _ _ rfl]; rfl, by rw [World.cell?_alloc_at _ _ _ _ rfl]; rfl, hlo, by omega, by simp, fun j hj => by have := World.ownsRow.lt own j hj; omega⟩
theorem FamObj.next {lo hi : Nat} (h : FamObj u lo hi bx t A m c xs) (hb : Below u.heap.size u u') : FamObj u' lo hi bx t A m c xs :=
  ⟨h.own.below hb h.own.lt, (hb.cell (p := ⟨bx, 0, none⟩) h.lt).trans h.c0, (hb.cell (p := ⟨bx, 1, none⟩) h.lt).trans h.c1, h.bl, h.bh, Nat.le_trans h.hh hb.size, h.row⟩
theorem FamObj.drew {lo hi : Nat} (h : FamObj u lo hi bx t A m c xs) : FamObj u.drew lo hi bx t A m c xs := h.next ((Below.refl _ _).drew)
theorem FamObj.alloc {lo hi : Nat} (h : FamObj u lo hi bx t A m c xs) (o : Obj) : FamObj (u.alloc o) lo hi bx t A m c xs := h.next ((Below.refl _ _).alloc (Nat.le_refl _) o)
theorem FamObj.ints {lo hi : Nat} (h : FamObj u lo hi bx t A m c xs) : IntsIn u u.heap.size A xs := h.own.ints
theorem FamObj.grown {lo hi : Nat} {r : Option Nat} (h : FamObj u lo hi bx t A m c xs) (hg : u.grownBy u' r) (hr : ∀ j, r = some j → j < lo ∨ hi ≤ j) : FamObj u' lo hi bx t A m c xs := by
  have hbl := h.bl
  have hbh := h.bh
  have hbx : r ≠ some bx := fun e => by have := hr bx e; omega
  refine ⟨World.ownsRow.kept h.own hg ?_, (hg.cell (a := ⟨bx, 0, none⟩) h.c0 (fun e => hbx e.symm)), (hg.cell (a := ⟨bx, 1, none⟩) h.c1 (fun e => hbx e.symm)), hbl, hbh, Nat.le_trans h.hh hg.size, h.row⟩
  cases ho : (Value.slice A m c).ownBlock with
  | none => exact .inl rfl
  | some j =>
    refine .inr fun e => ?_
    have h1 := h.row j ho
    have h2 := hr j e.symm
    omega
/-- The family's own row with marks in it. -/
theorem FamObj.marked {lo hi : Nat} {ys : List Int} (h : FamObj u lo hi bx t A m c xs) (hg : u.grownBy u' (Value.slice A m c).ownBlock) (own : OwnI u' lo (.slice A m c) ys) : FamObj u' lo hi bx t A m c ys := by
  have hne : ∀ j, (Value.slice A m c).ownBlock = some j → j ≠ bx := fun j hj => (h.row j hj).2.2
  exact ⟨own, hg.cell (a := ⟨bx, 0, none⟩) h.c0 (fun e => hne _ e.symm rfl), hg.cell (a := ⟨bx, 1, none⟩) h.c1 (fun e => hne _ e.symm rfl), h.bl, h.bh, Nat.le_trans h.hh hg.size, h.row⟩
theorem own_nil {lo : Nat} (h : OwnI u lo (.slice A m c) xs) : NilOk A m c := fun e => by
  subst e
  rcases h.form with ⟨hv, _⟩ | ⟨g, cc, hv, _⟩
  · injection hv with _ h2 h3; exact ⟨h2, h3⟩
  · cases hv
theorem FamObj.nil {lo hi : Nat} (h : FamObj u lo hi bx t A m c xs) : NilOk A m c := own_nil h.own
end

/-- A box of nothing, which a family is to be laid in. -/
structure BoxAt (u : World) (bx : Nat) : Prop where
  c0 : u.cell? ⟨bx, 0, none⟩ = some (.int .i64 0)
  c1 : u.cell? ⟨bx, 1, none⟩ = some (.slice none 0 0)
  f0 : u.frozen? ⟨bx, 0, none⟩ = false
  f1 : u.frozen? ⟨bx, 1, none⟩ = false
  lt : bx < u.heap.size
theorem BoxAt.start (u : World) (ty : TypeId) : BoxAt (u.alloc (.cells #[.int .i64 0, .slice none 0 0] ty)) u.heap.size :=
  ⟨by rw [World.cell?_alloc_at _ _ _ _ rfl]; rfl, by rw [World.cell?_alloc_at _ _ _ _ rfl]; rfl, World.frozen?_alloc_at _ _ _ _ rfl, World.frozen?_alloc_at _ _ _ _ rfl, by simp⟩
theorem BoxAt.next {u u' : World} {bx : Nat} (h : BoxAt u bx) (hb : Below u.heap.size u u') : BoxAt u' bx :=
  ⟨(hb.cell (p := ⟨bx, 0, none⟩) h.lt).trans h.c0, (hb.cell (p := ⟨bx, 1, none⟩) h.lt).trans h.c1, (hb.frozen (p := ⟨bx, 0, none⟩) h.lt).trans h.f0, (hb.frozen (p := ⟨bx, 1, none⟩) h.lt).trans h.f1, Nat.lt_of_lt_of_le h.lt hb.size⟩
theorem BoxAt.drew {u : World} {bx : Nat} (h : BoxAt u bx) : BoxAt u.drew bx := h.next ((Below.refl _ _).drew)
/-- The family is laid in the box. -/
theorem BoxAt.put {u : World} {bx lo L : Nat} {t : Int} {A : Option Addr} {m c : Nat} {xs : List Int} (h : BoxAt u bx) (own : OwnI u lo (.slice A m c) xs) (hL : L ≤ bx) (hlo : bx < lo) :
    FamObj ((u.setCell ⟨bx, 0, none⟩ (.int .i64 t)).setCell ⟨bx, 1, none⟩ (.slice A m c)) L u.heap.size bx t A m c xs := by
  have hlt := h.lt
  have hrow := World.ownsRow.lt own
  have e0 : (u.setCell ⟨bx, 0, none⟩ (.int .i64 t)).cell? ⟨bx, 0, none⟩ = some (.int .i64 t) := World.cell?_setCell_same' _ _ _ (by rw [h.c0]; rfl)
  have e1 : (u.setCell ⟨bx, 0, none⟩ (.int .i64 t)).cell? ⟨bx, 1, none⟩ = some (.slice none 0 0) := by rw [World.cell?_setCell_other _ _ _ _ (by simp)]; exact h.c1
  refine ⟨OwnI.more (OwnI.far (OwnI.far own ?_ _) ?_ _) (by omega), ?_, ?_, hL, hlt, by simp, fun j hj => by have := hrow j hj; omega⟩
  · intro k hk; have := hrow k hk; simp; omega
  · intro k hk; have := hrow k hk; simp; omega
  · rw [World.cell?_setCell_other _ _ _ _ (by simp)]; exact e0
  · exact World.cell?_setCell_same' _ _ _ (by rw [e1]; rfl)
theorem FamArg.put {w u : World} {bx b : Nat} {t : Int} {A : Option Addr} {m c : Nat} {xs : List Int} (h : FamArg w u bx t A m c xs) (hb : bx < b) (v v' : Value) : FamArg w ((u.setCell ⟨b, 0, none⟩ v).setCell ⟨b, 1, none⟩ v') bx t A m c xs :=
  have hB : Below (bx + 1) u ((u.setCell ⟨b, 0, none⟩ v).setCell ⟨b, 1, none⟩ v') := ((Below.refl _ _).setCell (by simp; omega) _).setCell (by simp; omega) _
  have hge := h.ge
  ⟨(hB.cell (p := ⟨bx, 0, none⟩) (by simp)).trans h.c0, (hB.cell (p := ⟨bx, 1, none⟩) (by simp)).trans h.c1, h.row.below hB (by omega), h.below.trans (hB.mono (by omega)), h.ge, Nat.lt_of_lt_of_le h.lt hB.size⟩
theorem FamObj.put {u : World} {lo hi bx b : Nat} {t : Int} {A : Option Addr} {m c : Nat} {xs : List Int} (h : FamObj u lo hi bx t A m c xs) (hb : hi ≤ b) (v v' : Value) : FamObj ((u.setCell ⟨b, 0, none⟩ v).setCell ⟨b, 1, none⟩ v') lo hi bx t A m c xs :=
  have hB : Below hi u ((u.setCell ⟨b, 0, none⟩ v).setCell ⟨b, 1, none⟩ v') := ((Below.refl _ _).setCell (by simp; omega) _).setCell (by simp; omega) _
  have h2 := h.bh
  ⟨h.own.below hB (fun k hk => (h.row k hk).2.1), (hB.cell (p := ⟨bx, 0, none⟩) (by simp; omega)).trans h.c0, (hB.cell (p := ⟨bx, 1, none⟩) (by simp; omega)).trans h.c1, h.bl, h.bh, Nat.le_trans h.hh hB.size, h.row⟩

/-- A family made: with its length by name. -/
def MadeM (w : World) (t : Int) (m : Nat) (xs : List Int) (e : Ending) (w' : World) : Prop :=
  ∃ A c, e = .returned (.agg #[.int .i64 t, .slice A m c]) ∧ OwnI w' w.heap.size (.slice A m c) xs ∧ Below w.heap.size w w'
def GotM (w : World) (t : Int) (m : Nat) (xs : List Int) (ok : Bool) (e : Ending) (w' : World) : Prop :=
  ∃ A c, e = .returned (.tuple #[.agg #[.int .i64 t, .slice A m c], .bool ok]) ∧ OwnI w' w.heap.size (.slice A m c) xs ∧ Below w.heap.size w w'
theorem GotFam.m {w w' : World} {t : Int} {m : Nat} {xs : List Int} {ok : Bool} {e : Ending} (hm : xs.length = m) (h : GotFam w t xs ok e w') : GotM w t m xs ok e w' := by subst hm; exact h
theorem toFam_m (t : Int) (A : Option Addr) (c m : Nat) (xs : List Int) (w : World) (hxs : IntsIn w w.heap.size A xs) (hm : xs.length = m) (hl : m ≤ 1048576) :
    Calls Try.prog 35 #[.agg #[.int .i64 t, .slice A m c]] w (MadeM w t m xs) := by
  subst hm; exact toFamily_any t A c xs w hxs hl
end Go.Proofs.Ytmdmmebekicpkaa

/- A list that is an argument of a law, in later worlds. -/
namespace Go.Proofs.Ytmdmmebekicpkaa
open Go.RowKit
set_option maxRecDepth 100000

/-- A list that is an argument, in a later world. -/
structure RowArg (w u : World) (A : Option Addr) (xs : List Int) : Prop where
  row : IntsIn u w.heap.size A xs
  below : Below w.heap.size w u
section
variable {w u u' : World} {A : Option Addr} {xs : List Int}
theorem RowArg.next (h : RowArg w u A xs) (hb : Below u.heap.size u u') : RowArg w u' A xs :=
  ⟨h.row.below hb h.below.size, h.below.trans (hb.mono h.below.size)⟩
theorem RowArg.alloc (h : RowArg w u A xs) (o : Obj) : RowArg w (u.alloc o) A xs := h.next ((Below.refl _ _).alloc (Nat.le_refl _) o)
theorem RowArg.ints (h : RowArg w u A xs) : IntsIn u u.heap.size A xs := h.row.more h.below.size
theorem RowArg.grown {r : Option Nat} (h : RowArg w u A xs) (hg : u.grownBy u' r) (hr : ∀ j, r = some j → w.heap.size ≤ j) : RowArg w u' A xs :=
  have hB : Below w.heap.size u u' := (Below.refl _ _).grown hg h.below.size hr
  ⟨h.row.below hB (Nat.le_refl _), h.below.trans hB⟩
theorem RowAt.alloc {lo hi : Nat} {v : Value} (h : RowAt u lo hi v xs) (o : Obj) : RowAt (u.alloc o) lo hi v xs := h.next ((Below.refl _ _).alloc (Nat.le_refl _) o)
theorem RowAt.two {lo hi : Nat} {v : Value} (h : RowAt u lo hi v xs) : ∀ j, v.ownBlock = some j → lo ≤ j ∧ j < hi := fun j hj => ⟨h.own.ge j hj, h.row j hj⟩
end
end Go.Proofs.Ytmdmmebekicpkaa
