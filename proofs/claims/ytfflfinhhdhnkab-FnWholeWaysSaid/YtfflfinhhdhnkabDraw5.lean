/- The draws of chances: a chance, two numbers, a row of counts with a chance, a net with a chance, two nodes of a net with a chance. -/
import Derived.Test.YtfflfinhhdhnkabDrawT
import Derived.Test.YtfflfinhhdhnkabDrawR
namespace Go.Proofs.Ytfflfinhhdhnkab
open Go.RowKit
set_option maxRecDepth 100000

def DrawnChance (w : World) (rb : Nat) (B : Option Addr) (l cap : Nat) (e : Ending) (w' : World) : Prop :=
  ∃ (p m : Int) (q : Nat), e = .returned (.tuple #[.int .i64 p, .int .i64 m]) ∧ 0 ≤ p ∧ p ≤ 20 ∧ 1 ≤ m ∧ m ≤ 20 ∧ Rd w' rb B l cap q ∧ w.grownBy w' (some rb)

theorem l20Chance_any (rb : Nat) (B : Option Addr) (l cap p : Nat) (w : World) (h : Rd w rb B l cap p) (hp : p ≤ 950000) :
    Calls Try.prog 32 #[.pointer (some ⟨rb, 0, none⟩)] w (DrawnChance w rb B l cap) := by
  go_enter Try.func32, Try.ntmps32
  go_wp2_with fail
  refine (pick_any _ _ _ _ _ _ _ h (by omega) (by omega)).mono ?_
  rintro e1 w1 ⟨x1, m1, rfl, a1, b1, -, rfl⟩
  have b1 := b1 (by omega)
  have H1 := h.next m1
  have G1 := readOn_grown w rb p m1
  have wx1 : IntKind.i64.wrap (1 + x1) = 1 + x1 := IntWalk.i64_in _ (by omega)
  have wy1 : IntKind.i64.wrap (1 + x1 + 1) = 1 + x1 + 1 := IntWalk.i64_in _ (by omega)
  generalize readOn w rb p m1 = v1 at *
  go_wp2_with fail
  refine (pick_any _ _ _ _ _ _ _ H1 (by omega) (by omega)).mono ?_
  rintro e2 w2 ⟨x2, m2, rfl, a2, b2, -, rfl⟩
  have b2 := b2 (by omega)
  have H2 := H1.next m2
  have G2 := grown_trans G1 (readOn_grown v1 rb (p + 1) m2)
  generalize readOn v1 rb (p + 1) m2 = v2 at *
  go_wp2_with fail
  refine (pick_any _ _ _ _ _ _ _ H2 (by omega) (by omega)).mono ?_
  rintro e3 w3 ⟨x3, m3, rfl, a3, b3, -, rfl⟩
  have b3 := b3 (by omega)
  have H3 := H2.next m3
  have G3 := grown_trans G2 (readOn_grown v2 rb (p + 1 + 1) m3)
  have wt3 : x3.tdiv 29 = x3 / 29 := Int.tdiv_eq_ediv_of_nonneg a3
  have wu3 : IntKind.i64.wrap (x3 / 29) = x3 / 29 := IntWalk.i64_in _ (by omega)
  have wv3 : IntKind.i64.wrap (x3 / 29 * 9) = x3 / 29 * 9 := IntWalk.i64_in _ (by omega)
  have ws3 : IntKind.i64.wrap (x2 + x3 / 29 * 9) = x2 + x3 / 29 * 9 := IntWalk.i64_in _ (by omega)
  generalize readOn v2 rb (p + 1 + 1) m3 = v3 at *
  go_wp2_with fail
  refine (pick_any _ _ _ _ _ _ _ H3 (by omega) (by omega)).mono ?_
  rintro e4 w4 ⟨x4, m4, rfl, a4, b4, -, rfl⟩
  have b4 := b4 (by omega)
  have H4 := H3.next m4
  have G4 := grown_trans G3 (readOn_grown v3 rb (p + 1 + 1 + 1) m4)
  have wt4 : x4.tdiv 39 = x4 / 39 := Int.tdiv_eq_ediv_of_nonneg a4
  have wu4 : IntKind.i64.wrap (x4 / 39) = x4 / 39 := IntWalk.i64_in _ (by omega)
  have wv4 : IntKind.i64.wrap (x4 / 39 * 5) = x4 / 39 * 5 := IntWalk.i64_in _ (by omega)
  have ws4 : IntKind.i64.wrap (1 + x1 + x4 / 39 * 5) = 1 + x1 + x4 / 39 * 5 := IntWalk.i64_in _ (by omega)
  generalize readOn v3 rb (p + 1 + 1 + 1) m4 = v4 at *
  go_wp2_with fail
  refine bodyPost_ret (v := .tuple #[.int .i64 (x2 + x3 / 29 * 9), .int .i64 (1 + x1 + x4 / 39 * 5)]) (by simp [results, Try.results32, go_sem, *]) rfl ?_
  exact ⟨_, _, _, rfl, by omega, by omega, by omega, by omega, H4, G4⟩

/-- One row of the call's own, beside what is read. -/
structure One1 (w u : World) (rb : Nat) (B : Option Addr) (l cap q : Nat) (va : Value) (xs : List Int) : Prop where
  rd : Rd u rb B l cap q
  own : OwnI u (rb + 1) va xs
  bel : Below w.heap.size w u
  ge : w.heap.size ≤ rb
theorem One1.read {w u : World} {rb : Nat} {B : Option Addr} {l cap q : Nat} {va : Value} {xs : List Int} (h : One1 w u rb B l cap q va xs) (m : Nat) : One1 w (readOn u rb q m) rb B l cap (q + 1) va xs :=
  ⟨h.rd.next m, readOn_ownI h.own _ _ _ (by omega), h.bel.trans (below_of_grown (readOn_grown u rb q m) h.bel.size h.ge), h.ge⟩
theorem One1.append {w u u' : World} {rb : Nat} {B : Option Addr} {l cap q n c g cc : Nat} {A : Option Addr} {xs xs' : List Int} (h : One1 w u rb B l cap q (.slice A n c) xs) (hg : u.grownBy u' (Value.slice A n c).ownBlock)
    (own' : OwnI u' (rb + 1) (.slice (some ⟨g, 0, none⟩) (n + 1) cc) xs') : One1 w u' rb B l cap q (.slice (some ⟨g, 0, none⟩) (n + 1) cc) xs' := by
  have hrb := h.rd.lt
  have hge := h.own.ge
  have hb : Below (rb + 1) u u' := ⟨hg.os, hg.tape, hg.output, hg.size, fun k hk => hg.block k (by omega) (fun e => by have := hge k e.symm; omega)⟩
  exact ⟨h.rd.keep hb (by omega), own', h.bel.trans (hb.mono (by have := h.ge; omega)), h.ge⟩

def less9 (xs : List Int) : Prop := ∀ x ∈ xs, -9 ≤ x ∧ x ≤ 8
theorem less9_snoc {xs : List Int} {x : Int} (h : less9 xs) (h0 : -9 ≤ x) (h1 : x ≤ 8) : less9 (xs ++ [x]) := by
  intro y hy
  rcases List.mem_append.1 hy with hy | hy
  · exact h y hy
  · obtain rfl : y = x := by simpa using hy
    omega
def GotRowChance (w : World) (e : Ending) (w' : World) : Prop :=
  ∃ A c xs p m, e = .returned (.tuple #[.slice A xs.length c, .int .i64 p, .int .i64 m]) ∧ OwnI w' w.heap.size (.slice A xs.length c) xs ∧ less9 xs ∧ xs.length ≤ 17 ∧ (0 : Int) ≤ p ∧ p ≤ 20 ∧ (1 : Int) ≤ m ∧ m ≤ 20 ∧ Below w.heap.size w w'

def GotTermChance (w : World) (e : Ending) (w' : World) : Prop :=
  ∃ (n : Int) (A : Option Addr) (c : Nat) (es : List (Int × Int)) (a b p m : Int), e = .returned (.tuple #[.agg #[.int .i64 n, .slice A es.length c], .int .i64 a, .int .i64 b, .int .i64 p, .int .i64 m]) ∧ OwnE w' w.heap.size (.slice A es.length c) es ∧
    1 ≤ n ∧ n ≤ 7 ∧ es.length ≤ 20 ∧ 1 ≤ a ∧ a ≤ 20 ∧ 1 ≤ b ∧ b ≤ 20 ∧ 0 ≤ p ∧ p ≤ 20 ∧ 1 ≤ m ∧ m ≤ 20 ∧ Below w.heap.size w w'
def GotNetChance (w : World) (e : Ending) (w' : World) : Prop :=
  ∃ (n : Int) (A : Option Addr) (c : Nat) (es : List (Int × Int)) (p m : Int), e = .returned (.tuple #[.agg #[.int .i64 n, .slice A es.length c], .int .i64 p, .int .i64 m]) ∧ OwnE w' w.heap.size (.slice A es.length c) es ∧
    1 ≤ n ∧ n ≤ 7 ∧ es.length ≤ 20 ∧ 0 ≤ p ∧ p ≤ 20 ∧ 1 ≤ m ∧ m ≤ 20 ∧ Below w.heap.size w w'
def GotNetNum (w : World) (e : Ending) (w' : World) : Prop :=
  ∃ (n : Int) (A : Option Addr) (c : Nat) (es : List (Int × Int)) (m : Int), e = .returned (.tuple #[.agg #[.int .i64 n, .slice A es.length c], .int .i64 m]) ∧ OwnE w' w.heap.size (.slice A es.length c) es ∧
    1 ≤ n ∧ n ≤ 7 ∧ es.length ≤ 20 ∧ 0 ≤ m ∧ m ≤ 6 ∧ Below w.heap.size w w'
theorem chance_box {w1 w2 : World} {rb : Nat} {n : Int} {A2 : Option Addr} {c2 : Nat} {es : List (Int × Int)} {B : Option Addr} {l cap q : Nat} {t : TypeId} (own : OwnE w2 w1.heap.size (.slice A2 es.length c2) es) (hg : w1.grownBy w2 (some rb)) (H : Rd w2 rb B l cap q) :
    (∀ w4 : World, (w2.alloc (.cells #[.int .i64 n, .slice A2 es.length c2] t)).grownBy w4 (some rb) → w4.cell? ⟨w2.heap.size, 0, none⟩ = some (.int .i64 n) ∧ w4.cell? ⟨w2.heap.size, 1, none⟩ = some (.slice A2 es.length c2)) ∧
    OwnE (w2.alloc (.cells #[.int .i64 n, .slice A2 es.length c2] t)) w1.heap.size (.slice A2 es.length c2) es ∧ Rd (w2.alloc (.cells #[.int .i64 n, .slice A2 es.length c2] t)) rb B l cap q ∧ w1.grownBy (w2.alloc (.cells #[.int .i64 n, .slice A2 es.length c2] t)) (some rb) := by
  have h2 := H.lt
  have hs := hg.size
  refine ⟨fun w4 G => ?_, own.alloc _, H.keep ((Below.refl _ _).alloc (Nat.le_refl _) _) h2, grown_trans hg (World.grownBy_alloc w2 _ _)⟩
  have hb := G.block w2.heap.size (by simp) (by simp; omega)
  exact ⟨(World.cell?_of_block (w := w2.alloc (.cells #[.int .i64 n, .slice A2 es.length c2] t)) hb).trans (by rw [World.cell?_alloc_at _ _ _ _ rfl]; rfl), (World.cell?_of_block (w := w2.alloc (.cells #[.int .i64 n, .slice A2 es.length c2] t)) hb).trans (by rw [World.cell?_alloc_at _ _ _ _ rfl]; rfl)⟩
theorem own_kept {u u' : World} {base rb : Nat} {A : Option Addr} {n c : Nat} {es : List (Int × Int)} (h : OwnE u base (.slice A n c) es) (hg : u.grownBy u' (some rb)) (hr : rb < base) : OwnE u' base (.slice A n c) es := by
  refine World.ownsRow.kept h hg ?_
  cases ho : (Value.slice A n c).ownBlock with
  | none => exact .inl rfl
  | some j => exact .inr fun e => by injection e with e; have := (World.ownsRow.lt h j ho).1; omega

theorem drawJoinedWays_any (A : Option Addr) (l cap : Nat) (w : World) (hb : BytesIn w w.heap.size A l) (hl : l ≤ 1048576) (hc : l ≤ cap) :
    Calls Try.prog 9 #[.slice A l cap] w (GotTermChance w) := by
  have hbox := (Below.refl w.heap.size w).alloc (Nat.le_refl _) (.cells #[.int .i64 0, .slice none 0 0] 25)
  have hb' : BytesIn (w.alloc (.cells #[.int .i64 0, .slice none 0 0] 25)) (w.alloc (.cells #[.int .i64 0, .slice none 0 0] 25)).heap.size A l := (hb.keep fun p hp => hbox.cell hp).more (by simp)
  go_enter Try.func9, Try.ntmps9
  go_wp2_with fail
  refine (open_any _ _ _ _ hb' hl hc).mono ?_
  rintro e1 w1 ⟨rb, B, l1, c1, rfl, H1, hge, hb1⟩
  simp only [World.size_alloc] at hge
  go_wp2_with fail
  refine (l20Terminals_q _ _ _ _ _ _ H1 (by omega)).mono ?_
  rintro e2 w2 ⟨n, A2, c2, es, a, b, q, rfl, own, n1, n7, hle, a1, a2, b1, b2, H2, hg, hq⟩
  obtain ⟨NB, own3, H3, hg3⟩ := chance_box (n := n) own hg H2
  have hdis : w.heap.size < w2.heap.size := by have h1 := hb1.size; have h2 := hg.size; simp only [World.size_alloc] at h1; omega
  go_wp2_with fail
  generalize hW : w2.alloc (.cells #[.int .i64 n, .slice A2 es.length c2] 25) = W at *
  generalize hK : w2.heap.size = K at *
  refine (l20Chance_any _ _ _ _ _ _ H3 (by omega)).mono ?_
  rintro e4 w4 ⟨p, m, q4, rfl, p0, p1, m0, m1, H4, G4⟩
  have own4 := own_kept own3 G4 H1.lt
  obtain ⟨k0, k1⟩ := NB w4 G4
  have hg4 := grown_trans hg3 G4
  clear NB own3 H3 hg3 G4 hg own H2
  obtain ⟨q0, q1⟩ := tbox hb1 hg4 (by omega) 0
  obtain ⟨q2, q3⟩ := tbox hb1 hg4 (by omega) 1
  have hbel := tbelow hb1 hg4 (by omega)
  have hs := hb1.size
  simp only [World.size_alloc] at hs
  have q0' : w4.cell? ⟨w.heap.size, 0, none⟩ = some (.int .i64 0) := q0
  have q2' : w4.cell? ⟨w.heap.size, 1, none⟩ = some (.slice none 0 0) := q2
  clear q0 q2 hW hK
  go_wp2_with fail
  refine bodyPost_ret (v := .tuple #[.agg #[.int .i64 n, .slice A2 es.length c2], .int .i64 a, .int .i64 b, .int .i64 p, .int .i64 m]) (by simp [results, Try.results9, go_sem, *]) rfl ?_
  exact ⟨n, A2, c2, es, a, b, p, m, rfl, ((own4.more (by omega)).far (fun k hk => by have := (World.ownsRow.lt own4 k hk).1; simp; omega) _).far (fun k hk => by have := (World.ownsRow.lt own4 k hk).1; simp; omega) _, n1, n7, hle, a1, a2, b1, b2, p0, p1, m0, m1, (hbel.setCell (by simp) _).setCell (by simp) _⟩
theorem drawWholeWays_any (A : Option Addr) (l cap : Nat) (w : World) (hb : BytesIn w w.heap.size A l) (hl : l ≤ 1048576) (hc : l ≤ cap) :
    Calls Try.prog 14 #[.slice A l cap] w (GotNetChance w) := by
  have hbox := (Below.refl w.heap.size w).alloc (Nat.le_refl _) (.cells #[.int .i64 0, .slice none 0 0] 25)
  have hb' : BytesIn (w.alloc (.cells #[.int .i64 0, .slice none 0 0] 25)) (w.alloc (.cells #[.int .i64 0, .slice none 0 0] 25)).heap.size A l := (hb.keep fun p hp => hbox.cell hp).more (by simp)
  go_enter Try.func14, Try.ntmps14
  go_wp2_with fail
  refine (open_any _ _ _ _ hb' hl hc).mono ?_
  rintro e1 w1 ⟨rb, B, l1, c1, rfl, H1, hge, hb1⟩
  simp only [World.size_alloc] at hge
  go_wp2_with fail
  refine (l20Net_any _ _ _ _ _ _ _ H1 (by omega) (by omega) (by omega)).mono ?_
  rintro e2 w2 ⟨n, A2, c2, es, q, rfl, own, n1, n7, hle, H2, hq, hg⟩
  obtain ⟨NB, own3, H3, hg3⟩ := chance_box (n := n) own hg H2
  have hdis : w.heap.size < w2.heap.size := by have h1 := hb1.size; have h2 := hg.size; simp only [World.size_alloc] at h1; omega
  go_wp2_with fail
  generalize hW : w2.alloc (.cells #[.int .i64 n, .slice A2 es.length c2] 25) = W at *
  generalize hK : w2.heap.size = K at *
  refine (l20Chance_any _ _ _ _ _ _ H3 (by omega)).mono ?_
  rintro e4 w4 ⟨p, m, q4, rfl, p0, p1, m0, m1, H4, G4⟩
  have own4 := own_kept own3 G4 H1.lt
  obtain ⟨k0, k1⟩ := NB w4 G4
  have hg4 := grown_trans hg3 G4
  clear NB own3 H3 hg3 G4 hg own H2
  obtain ⟨q0, q1⟩ := tbox hb1 hg4 (by omega) 0
  obtain ⟨q2, q3⟩ := tbox hb1 hg4 (by omega) 1
  have hbel := tbelow hb1 hg4 (by omega)
  have hs := hb1.size
  simp only [World.size_alloc] at hs
  have q0' : w4.cell? ⟨w.heap.size, 0, none⟩ = some (.int .i64 0) := q0
  have q2' : w4.cell? ⟨w.heap.size, 1, none⟩ = some (.slice none 0 0) := q2
  clear q0 q2 hW hK
  go_wp2_with fail
  refine bodyPost_ret (v := .tuple #[.agg #[.int .i64 n, .slice A2 es.length c2], .int .i64 p, .int .i64 m]) (by simp [results, Try.results14, go_sem, *]) rfl ?_
  exact ⟨n, A2, c2, es, p, m, rfl, ((own4.more (by omega)).far (fun k hk => by have := (World.ownsRow.lt own4 k hk).1; simp; omega) _).far (fun k hk => by have := (World.ownsRow.lt own4 k hk).1; simp; omega) _, n1, n7, hle, p0, p1, m0, m1, (hbel.setCell (by simp) _).setCell (by simp) _⟩

end Go.Proofs.Ytfflfinhhdhnkab
