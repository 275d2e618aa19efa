/- l20Net: a net is drawn. -/
import Derived.Test.YtlcgbmeneajfoaaDraw
import Derived.Test.YtlcgbmeneajfoaaMark
import Derived.Deep.AppendLies
import Derived.Deep.DeepCutAuto
import Derived.Deep.RegionLaw
import Derived.Deep.CutBlock
namespace Go.Proofs.Ytlcgbmeneajfoaa
open Go.RowKit
set_option maxRecDepth 100000

/-- A result's box (block tb) not yet written, a net's box (block nb), its edges of the call's own, and of all that was there only the reader (block rb) turned. -/
structure NetBox (w wr : World) (rb tb nb : Nat) (n : Int) (A : Option Addr) (c : Nat) (es : List (Int × Int)) : Prop where
  n0 : wr.cell? ⟨nb, 0, none⟩ = some (.int .i64 n)
  n1 : wr.cell? ⟨nb, 1, none⟩ = some (.slice A es.length c)
  f0 : wr.frozen? ⟨nb, 0, none⟩ = false
  f1 : wr.frozen? ⟨nb, 1, none⟩ = false
  r0 : wr.cell? ⟨tb, 0, none⟩ = some (.int .i64 0)
  r1 : wr.cell? ⟨tb, 1, none⟩ = some (.slice none 0 0)
  g0 : wr.frozen? ⟨tb, 0, none⟩ = false
  g1 : wr.frozen? ⟨tb, 1, none⟩ = false
  own : OwnE wr (nb + 1) (.slice A es.length c) es
  gr : w.grownBy wr (some rb)
  o1 : rb < tb
  o2 : tb < nb
  o3 : w.heap.size ≤ tb
  o4 : nb < wr.heap.size

section
variable {w wr : World} {rb tb nb : Nat} {n : Int} {A : Option Addr} {c : Nat} {es : List (Int × Int)}
theorem NetBox.readOn (h : NetBox w wr rb tb nb n A c es) (p m : Nat) : NetBox w (readOn wr rb p m) rb tb nb n A c es := by
  have o1 := h.o1
  have o2 := h.o2
  exact ⟨(readOn_cell _ _ _ _ _ (by simp; omega)).trans h.n0, (readOn_cell _ _ _ _ _ (by simp; omega)).trans h.n1, (readOn_frozen ..).trans h.f0, (readOn_frozen ..).trans h.f1,
   (readOn_cell _ _ _ _ _ (by simp; omega)).trans h.r0, (readOn_cell _ _ _ _ _ (by simp; omega)).trans h.r1, (readOn_frozen ..).trans h.g0, (readOn_frozen ..).trans h.g1,
   readOn_own h.own _ _ _ (by omega), grown_trans h.gr (readOn_grown ..), h.o1, h.o2, h.o3, by rw [readOn_size]; exact h.o4⟩
theorem NetBox.drew (h : NetBox w wr rb tb nb n A c es) : NetBox w wr.drew rb tb nb n A c es :=
  ⟨h.n0, h.n1, h.f0, h.f1, h.r0, h.r1, h.g0, h.g1, h.own, grown_below h.gr ((Below.refl w.heap.size wr).drew) (Nat.le_refl _), h.o1, h.o2, h.o3, h.o4⟩
/-- The edges have grown in memory; the net's box has not been written yet. -/
theorem NetBox.held {w5 : World} (h : NetBox w wr rb tb nb n A c es) (hb : Below (nb + 1) wr w5) : w5.cell? ⟨nb, 0, none⟩ = some (.int .i64 n) ∧ w5.cell? ⟨nb, 1, none⟩ = some (.slice A es.length c) ∧ w5.frozen? ⟨nb, 0, none⟩ = false ∧ w5.frozen? ⟨nb, 1, none⟩ = false :=
  ⟨(hb.cell (p := ⟨nb, 0, none⟩) (by simp)).trans h.n0, (hb.cell (p := ⟨nb, 1, none⟩) (by simp)).trans h.n1, (hb.frozen (p := ⟨nb, 0, none⟩) (by simp)).trans h.f0, (hb.frozen (p := ⟨nb, 1, none⟩) (by simp)).trans h.f1⟩
theorem NetBox.heldT {w5 : World} (h : NetBox w wr rb tb nb n A c es) (hb : Below (nb + 1) wr w5) : w5.cell? ⟨tb, 0, none⟩ = some (.int .i64 0) ∧ w5.cell? ⟨tb, 1, none⟩ = some (.slice none 0 0) ∧ w5.frozen? ⟨tb, 0, none⟩ = false ∧ w5.frozen? ⟨tb, 1, none⟩ = false := by
  have o2 := h.o2
  exact ⟨(hb.cell (p := ⟨tb, 0, none⟩) (by simp; omega)).trans h.r0, (hb.cell (p := ⟨tb, 1, none⟩) (by simp; omega)).trans h.r1, (hb.frozen (p := ⟨tb, 0, none⟩) (by simp; omega)).trans h.g0, (hb.frozen (p := ⟨tb, 1, none⟩) (by simp; omega)).trans h.g1⟩
/-- And then it has. -/
theorem NetBox.edges {w5 : World} {A' : Option Addr} {c' : Nat} {es' : List (Int × Int)} (h : NetBox w wr rb tb nb n A c es) (hb : Below (nb + 1) wr w5) (ho : OwnE w5 (nb + 1) (.slice A' es'.length c') es') :
    NetBox w (w5.setCell ⟨nb, 1, none⟩ (.slice A' es'.length c')) rb tb nb n A' c' es' := by
  have o1 := h.o1
  have o2 := h.o2
  have o4 := h.o4
  have hs := hb.size
  obtain ⟨q0, q1, q2, q3⟩ := h.held hb
  exact ⟨(World.cell?_setCell_other _ _ _ _ (by simp)).trans q0, World.cell?_setCell_same _ _ _ q1, (World.frozen?_setCell ..).trans q2, (World.frozen?_setCell ..).trans q3,
    (World.cell?_setCell_other _ _ _ _ (by simp <;> omega)).trans ((hb.cell (p := ⟨tb, 0, none⟩) (by simp; omega)).trans h.r0), (World.cell?_setCell_other _ _ _ _ (by simp <;> omega)).trans ((hb.cell (p := ⟨tb, 1, none⟩) (by simp; omega)).trans h.r1),
    (World.frozen?_setCell ..).trans ((hb.frozen (p := ⟨tb, 0, none⟩) (by simp; omega)).trans h.g0), (World.frozen?_setCell ..).trans ((hb.frozen (p := ⟨tb, 1, none⟩) (by simp; omega)).trans h.g1),
    ho.far (fun k hk => by have := (World.ownsRow.lt ho k hk).1; simp; omega) _, grown_below (grown_below h.gr hb (by have := h.o3; omega)) ((Below.refl nb w5).setCell (by simp) _) (by have := h.o3; omega), h.o1, h.o2, h.o3, by simp [World.setCell]; omega⟩
theorem Rd.far {w5 : World} {rb' : Nat} {B : Option Addr} {l cap p nb : Nat} {v : Value} (h : Rd wr rb' B l cap p) (hb : Below (nb + 1) wr w5) (hn : rb' < nb) : Rd (w5.setCell ⟨nb, 1, none⟩ v) rb' B l cap p :=
  (h.keep hb (by omega)).keep ((Below.refl nb w5).setCell (by simp) _) hn
end

def DrawnNet (w : World) (rb : Nat) (B : Option Addr) (l cap p : Nat) (e : Ending) (w' : World) : Prop :=
  ∃ (n : Int) (A : Option Addr) (c : Nat) (es : List (Int × Int)) (q : Nat), e = .returned (.agg #[.int .i64 n, .slice A es.length c]) ∧ OwnE w' w.heap.size (.slice A es.length c) es ∧
    1 ≤ n ∧ n ≤ 7 ∧ es.length ≤ 20 ∧ Rd w' rb B l cap q ∧ q ≤ p + 100 ∧ w.grownBy w' (some rb)

section
variable {w wr : World} {rb tb nb : Nat} {n : Int} {A : Option Addr} {c : Nat} {es : List (Int × Int)}
/-- The net's box is read into the result's. -/
theorem NetBox.result (h : NetBox w wr rb tb nb n A c es) {B : Option Addr} {l cap p q : Nat} (hr : Rd wr rb B l cap q) (hq : q ≤ p + 100) (h1 : 1 ≤ n) (h7 : n ≤ 7) (hle : es.length ≤ 20) :
    DrawnNet w rb B l cap p (.returned (.agg #[.int .i64 n, .slice A es.length c])) ((wr.setCell ⟨tb, 0, none⟩ (.int .i64 n)).setCell ⟨tb, 1, none⟩ (.slice A es.length c)) := by
  have o1 := h.o1
  have o2 := h.o2
  have o3 := h.o3
  refine ⟨n, A, c, es, q, rfl, ((h.own.more (by omega)).far ?_ _).far ?_ _, h1, h7, hle, ?_, hq, ?_⟩
  · intro k hk; have := (World.ownsRow.lt h.own k hk).1; simp; omega
  · intro k hk; have := (World.ownsRow.lt h.own k hk).1; simp; omega
  · exact hr.keep (((Below.refl tb wr).setCell (by simp) _).setCell (by simp) _) o1
  · exact grown_below h.gr (((Below.refl tb wr).setCell (by simp) _).setCell (by simp) _) o3
theorem NetBox.setN (h : NetBox w wr rb tb nb n A c es) (n' : Int) : NetBox w (wr.setCell ⟨nb, 0, none⟩ (.int .i64 n')) rb tb nb n' A c es := by
  have o2 := h.o2
  exact ⟨World.cell?_setCell_same _ _ _ h.n0, (World.cell?_setCell_other _ _ _ _ (by simp)).trans h.n1, (World.frozen?_setCell ..).trans h.f0, (World.frozen?_setCell ..).trans h.f1,
    (World.cell?_setCell_other _ _ _ _ (by simp <;> omega)).trans h.r0, (World.cell?_setCell_other _ _ _ _ (by simp <;> omega)).trans h.r1, (World.frozen?_setCell ..).trans h.g0, (World.frozen?_setCell ..).trans h.g1,
    h.own.far (fun k hk => by have := (World.ownsRow.lt h.own k hk).1; simp; omega) _, grown_below h.gr ((Below.refl nb wr).setCell (by simp) _) (by have := h.o3; omega), h.o1, h.o2, h.o3, by simp [World.setCell]; exact h.o4⟩
theorem NetBox.alloc (h : NetBox w wr rb tb nb n A c es) (o : Obj) : NetBox w (wr.alloc o) rb tb nb n A c es := by
  have hb := (Below.refl wr.heap.size wr).alloc (Nat.le_refl _) o
  have o2 := h.o2
  have o4 := h.o4
  obtain ⟨q0, q1, q2, q3⟩ := h.held (hb.mono (by omega))
  exact ⟨q0, q1, q2, q3, (hb.cell (p := ⟨tb, 0, none⟩) (by simp; omega)).trans h.r0, (hb.cell (p := ⟨tb, 1, none⟩) (by simp; omega)).trans h.r1, (hb.frozen (p := ⟨tb, 0, none⟩) (by simp; omega)).trans h.g0, (hb.frozen (p := ⟨tb, 1, none⟩) (by simp; omega)).trans h.g1,
    World.ownsRow.alloc h.own o, grown_below h.gr hb (by have := h.o3; omega), h.o1, h.o2, h.o3, by simp; omega⟩
end

end Go.Proofs.Ytlcgbmeneajfoaa
