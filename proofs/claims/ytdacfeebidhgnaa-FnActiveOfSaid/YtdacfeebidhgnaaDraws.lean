/- The reader of a code: what a pick gives and what it leaves. -/
import Derived.Test.YtdacfeebidhgnaaEd
import Derived.Test.YtdacfeebidhgnaaRows
import Derived.OwnWalk
import Derived.Deep.QuietTactic
import Derived.BigQuiet
import Derived.BigGuardPart
import Derived.Laws.BitsAllLaws
import Derived.Laws.BitsLemmas
import Derived.Deep.RegionHeld3
import Derived.IntWalk
import Derived.Test.YtdacfeebidhgnaaMark
import Derived.Deep.AppendLies
import Derived.Deep.DeepCutAuto
import Derived.Deep.RegionLaw
import Derived.Deep.CutBlock
namespace Go.Proofs.Ytdacfeebidhgnaa
open Go.RowKit
set_option maxRecDepth 100000

/-- The slice whose head is 'A' reads, below block B, as so many bytes. -/
def BytesIn (w : World) (B : Nat) (A : Option Addr) (l : Nat) : Prop :=
  ∀ k, k < l → ∃ b off x, A = some ⟨b, off, none⟩ ∧ b < B ∧ w.cell? ⟨b, off + k, none⟩ = some (.int .u8 x) ∧ 0 ≤ x ∧ x ≤ 255
theorem BytesIn.keep {w w' : World} {B : Nat} {A : Option Addr} {l : Nat} (h : BytesIn w B A l) (hk : ∀ p : Addr, p.block < B → w'.cell? p = w.cell? p) : BytesIn w' B A l :=
  fun k hl => by
    obtain ⟨b, off, x, e, hb, hc, h0, h1⟩ := h k hl
    exact ⟨b, off, x, e, hb, (hk _ hb).trans hc, h0, h1⟩
theorem BytesIn.less {w : World} {B : Nat} {A : Option Addr} {l l' : Nat} (h : BytesIn w B A l) (hl : l' ≤ l) : BytesIn w B A l' := fun k hk => h k (by omega)
theorem BytesIn.more {w : World} {B B' : Nat} {A : Option Addr} {l : Nat} (h : BytesIn w B A l) (hB : B ≤ B') : BytesIn w B' A l := fun k hk => by
    obtain ⟨b, off, x, e, hb, hc, h0, h1⟩ := h k hk
    exact ⟨b, off, x, e, by omega, hc, h0, h1⟩

/-- Block rb is a reader: of so many bytes, of which so many places have been read. -/
structure Rd (w : World) (rb : Nat) (A : Option Addr) (l cap : Nat) (p : Nat) : Prop where
  c0 : w.cell? ⟨rb, 0, none⟩ = some (.slice A l cap)
  c1 : w.cell? ⟨rb, 1, none⟩ = some (.int .i64 p)
  f1 : w.frozen? ⟨rb, 1, none⟩ = false
  bytes : BytesIn w rb A l
  len : l ≤ 2000
theorem Rd.lt {w : World} {rb : Nat} {A : Option Addr} {l cap p : Nat} (h : Rd w rb A l cap p) : rb < w.heap.size := World.block_lt_of_cell? w _ h.c0
theorem Rd.keep {w w' : World} {rb B : Nat} {A : Option Addr} {l cap p : Nat} (h : Rd w rb A l cap p) (hb : Below B w w') (hB : rb < B) : Rd w' rb A l cap p :=
  ⟨(hb.cell (p := ⟨rb, 0, none⟩) hB).trans h.c0, (hb.cell (p := ⟨rb, 1, none⟩) hB).trans h.c1, (hb.frozen (p := ⟨rb, 1, none⟩) hB).trans h.f1, h.bytes.keep fun p hp => hb.cell (by omega), h.len⟩

/-- One place more has been read; nothing else has turned. -/
def readOn (w : World) (rb p m : Nat) : World := (w.setCell ⟨rb, 1, none⟩ (.int .i64 ((p : Int) + 1))).drewN m
theorem Rd.next {w : World} {rb : Nat} {A : Option Addr} {l cap p : Nat} (h : Rd w rb A l cap p) (m : Nat) : Rd (readOn w rb p m) rb A l cap (p + 1) := by
  unfold readOn
  refine ⟨?_, ?_, ?_, ?_, h.len⟩
  · exact (World.cell?_setCell_other w ⟨rb, 1, none⟩ ⟨rb, 0, none⟩ _ (by simp)).trans h.c0
  · exact World.cell?_setCell_same w ⟨rb, 1, none⟩ _ h.c1
  · show (w.setCell _ _).frozen? _ = false
    rw [World.frozen?_setCell]; exact h.f1
  · exact h.bytes.keep fun p hp => World.cell?_setCell_other w ⟨rb, 1, none⟩ p _ (fun e => by rw [← e] at hp; simp at hp)
theorem Rd.at_ {w : World} {rb : Nat} {A : Option Addr} {l cap p : Nat} (h : Rd w rb A l cap p) (j : Nat) (hj : j < l) : ∃ b off x, A = some ⟨b, off, none⟩ ∧ b < rb ∧ w.cell? ⟨b, off + j, none⟩ = some (.int .u8 x) ∧ 0 ≤ x ∧ x ≤ 255 := h.bytes j hj

def Picked (w : World) (rb p : Nat) (n : Int) (e : Ending) (w' : World) : Prop :=
  ∃ x m, e = .returned (.int .i64 x) ∧ 0 ≤ x ∧ (1 ≤ n → x < n) ∧ (n < 1 → x = 0) ∧ w' = readOn w rb p m

theorem xor_nonneg (x y : Int) (hx : 0 ≤ x) (hx' : x < 4611686018427387904) (hy : 0 ≤ y) (hy' : y < 4611686018427387904) : 0 ≤ bits .xor .i64 x y := by
  have small : ∀ z : Int, 0 ≤ z → z < 4611686018427387904 → (BitVec.ofInt 64 z).toNat < 2 ^ 62 := fun z h0 h1 => by
    rw [BitVec.toNat_ofInt]; omega
  have hlt : (BitVec.ofInt 64 x ^^^ BitVec.ofInt 64 y).toNat < 2 ^ 62 := by
    rw [BitVec.toNat_xor]; exact Nat.xor_lt_two_pow (small x hx hx') (small y hy hy')
  show 0 ≤ IntKind.i64.wrap (((BitVec.ofInt 64 x ^^^ BitVec.ofInt 64 y).toNat : Nat) : Int)
  rw [IntWalk.i64_in _ (by omega)]
  omega

theorem pick_any (rb : Nat) (A : Option Addr) (l cap p : Nat) (n : Int) (w : World) (h : Rd w rb A l cap p) (hp : p ≤ 1000000) (hn : n ≤ 1000000) :
    Calls Try.prog 100 #[.pointer (some ⟨rb, 0, none⟩), .int .i64 n] w (Picked w rb p n) := by
  obtain ⟨c0, c1, f1, _, hl⟩ := id h
  by_cases hn1 : n < 1
  · go_enter Try.func100, Try.ntmps100
    go_wp2
    go_returns
    exact ⟨0, 0, rfl, by omega, by omega, fun _ => rfl, rfl⟩
  · by_cases hl0 : l = 0
    · subst hl0
      go_enter Try.func100, Try.ntmps100
      go_wp2
      go_returns
      exact ⟨0, 0, rfl, by omega, by omega, fun _ => rfl, rfl⟩
    · by_cases hk : p < l
      · obtain ⟨b, off, x, rfl, hb, g, x0, x1⟩ := h.at_ p hk
        have hq : ((l : Int) == 0) = false := by simpa using hl0
        have hm := Int.emod_nonneg x (b := n) (by omega)
        have hm2 := Int.emod_lt_of_pos x (b := n) (by omega)
        go_enter Try.func100, Try.ntmps100
        go_wp2
        go_returns
        exact ⟨x % n, 0, rfl, hm, fun _ => hm2, fun h => by omega, rfl⟩
      · obtain ⟨b, off, x, rfl, hb, g, x0, x1⟩ := h.at_ (p % l) (Nat.mod_lt _ (by omega))
        obtain ⟨b', off', y, e, hb', g', y0, y1⟩ := h.at_ ((p * 7 + 3) % l) (Nat.mod_lt _ (by omega))
        obtain ⟨rfl, rfl⟩ : b = b' ∧ off = off' := by simpa using e
        have hq : ((l : Int) == 0) = false := by simpa using hl0
        have t1 : (p : Int).tmod (l : Int) = ((p % l : Nat) : Int) := by rw [Int.natCast_emod, Int.tmod_eq_emod_of_nonneg (by omega)]
        have t2 : ((p : Int) * 7 + 3).tmod (l : Int) = (((p * 7 + 3) % l : Nat) : Int) := by rw [Int.natCast_emod, Int.tmod_eq_emod_of_nonneg (by omega)]; simp
        have t3 : (p : Int).tdiv (l : Int) = ((p / l : Nat) : Int) := by rw [Int.natCast_ediv, Int.tdiv_eq_ediv_of_nonneg (by omega)]
        have q1 : p % l < l := Nat.mod_lt _ (by omega)
        have q2 : (p * 7 + 3) % l < l := Nat.mod_lt _ (by omega)
        have q3 : p / l ≤ 1000000 := Nat.le_trans (Nat.div_le_self _ _) hp
        have w1 : IntKind.i64.wrap ((p : Int) * 7) = (p : Int) * 7 := IntWalk.i64_in _ (by omega)
        have w2 : IntKind.i64.wrap ((p : Int) * 7 + 3) = (p : Int) * 7 + 3 := IntWalk.i64_in _ (by omega)
        generalize p % l = m1 at *
        generalize (p * 7 + 3) % l = m2 at *
        generalize p / l = m3 at *
        have G : (w.setCell ⟨rb, 1, none⟩ (.int .i64 ((p : Int) + 1))).cell? ⟨b, off + m1, none⟩ = some (.int .u8 x) := by
          rw [World.cell?_setCell_other _ _ _ _ (by intro e; injection e; omega)]; exact g
        have G' : (w.setCell ⟨rb, 1, none⟩ (.int .i64 ((p : Int) + 1))).cell? ⟨b, off + m2, none⟩ = some (.int .u8 y) := by
          rw [World.cell?_setCell_other _ _ _ _ (by intro e; injection e; omega)]; exact g'
        have i1 : (m1 : Int) < l := by omega
        have i2 : (m2 : Int) < l := by omega
        clear e h
        go_enter Try.func100, Try.ntmps100
        go_wp2
        go_quiet (fail)
        go_wp2
        go_returns
        obtain ⟨r, hr, hr0⟩ : ∃ r : Int, bits BinOp.xor IntKind.i64 (x * 131 + y * 1117 + (p : Int) * 29 + (m3 : Int) * 53) ((x * 131 + y * 1117 + (p : Int) * 29 + (m3 : Int) * 53) / 64) = r ∧ 0 ≤ r := by
          exact ⟨_, rfl, xor_nonneg _ _ (by omega) (by omega) (by omega) (by omega)⟩
        have h1 : 0 ≤ r.tmod n := Int.tmod_nonneg _ hr0
        have h2 : r.tmod n < n := Int.tmod_lt_of_pos _ (by omega)
        rw [← hr] at h1 h2
        exact ⟨_, nq, rfl, h1, fun _ => h2, fun h => by omega, rfl⟩

def Odd (w : World) (rb p : Nat) (e : Ending) (w' : World) : Prop := ∃ (b : Bool) (m : Nat), e = .returned (.bool b) ∧ w' = readOn w rb p m

theorem odd_any (rb : Nat) (A : Option Addr) (l cap p : Nat) (n : Int) (w : World) (h : Rd w rb A l cap p) (hp : p ≤ 1000000) (hn : n ≤ 1000000) (hn1 : 1 ≤ n) :
    Calls Try.prog 134 #[.pointer (some ⟨rb, 0, none⟩), .int .i64 n] w (Odd w rb p) := by
  have hd : decide (0 < n) = true := by simp; omega
  go_enter Try.func134, Try.ntmps134
  go_wp2_with fail
  refine (pick_any _ _ _ _ _ _ _ h hp hn).mono ?_
  rintro e w' ⟨x, m, rfl, h0, h1, h2, rfl⟩
  go_wp2_with fail
  go_returns
  exact ⟨_, m, rfl, rfl⟩

/-- What opening a code gives: a reader in a new block. -/
def Opened (w : World) (e : Ending) (w' : World) : Prop :=
  ∃ rb A l cap, e = .returned (.pointer (some ⟨rb, 0, none⟩)) ∧ Rd w' rb A l cap 0 ∧ w.heap.size ≤ rb ∧ Below w.heap.size w w'

theorem opened (A : Option Addr) (l cap : Nat) (w : World) (t : TypeId) (hb : BytesIn w w.heap.size A l) (hl : l ≤ 2000) : Rd (w.alloc (.cells #[.slice A l cap, .int .i64 0] t)) w.heap.size A l cap 0 :=
  ⟨by rw [World.cell?_alloc_at _ _ _ _ rfl]; rfl, by rw [World.cell?_alloc_at _ _ _ _ rfl]; rfl, World.frozen?_alloc_at _ _ _ _ rfl,
    hb.keep fun p hp => ((Below.refl w.heap.size w).alloc (Nat.le_refl _) _).cell hp, hl⟩

theorem open_any (A : Option Addr) (l cap : Nat) (w : World) (hb : BytesIn w w.heap.size A l) (hl : l ≤ 1048576) (hc : l ≤ cap) :
    Calls Try.prog 95 #[.slice A l cap] w (Opened w) := by
  by_cases hbig : 2000 < l
  · obtain ⟨b, off, x, rfl, hbb, g, x0, x1⟩ := hb 0 (by omega)
    go_enter Try.func95, Try.ntmps95
    go_wp2
    go_returns
    exact ⟨w.heap.size, _, _, _, rfl, opened _ _ _ _ _ (hb.less (by omega)) (by omega), Nat.le_refl _, (Below.refl _ _).alloc (Nat.le_refl _) _⟩
  · go_enter Try.func95, Try.ntmps95
    go_wp2
    go_returns
    exact ⟨w.heap.size, _, _, _, rfl, opened _ _ _ _ _ hb (by omega), Nat.le_refl _, (Below.refl _ _).alloc (Nat.le_refl _) _⟩

theorem Rd.drewN {w : World} {rb : Nat} {A : Option Addr} {l cap p : Nat} (h : Rd w rb A l cap p) (m : Nat) : Rd (w.drewN m) rb A l cap p := ⟨h.c0, h.c1, h.f1, h.bytes, h.len⟩
theorem Rd.drew {w : World} {rb : Nat} {A : Option Addr} {l cap p : Nat} (h : Rd w rb A l cap p) : Rd w.drew rb A l cap p := ⟨h.c0, h.c1, h.f1, h.bytes, h.len⟩
theorem readOn_size (w : World) (rb p m : Nat) : (readOn w rb p m).heap.size = w.heap.size := by unfold readOn; simp [World.setCell]
theorem readOn_heap (w : World) (rb p m k : Nat) (h : k ≠ rb) : (readOn w rb p m).heap[k]? = w.heap[k]? := Below.heap_setCell w _ _ _ h
theorem readOn_cell (w : World) (rb p m : Nat) (a : Addr) (h : a.block ≠ rb) : (readOn w rb p m).cell? a = w.cell? a := World.cell?_of_block (readOn_heap _ _ _ _ _ h)
theorem readOn_frozen (w : World) (rb p m : Nat) (a : Addr) : (readOn w rb p m).frozen? a = w.frozen? a := World.frozen?_setCell ..
theorem readOn_grown (w : World) (rb p m : Nat) : w.grownBy (readOn w rb p m) (some rb) :=
  ⟨rfl, rfl, rfl, by rw [readOn_size]; exact Nat.le_refl _, fun k _ hk => readOn_heap _ _ _ _ _ (fun e => hk (by rw [e]))⟩
theorem readOn_own {w : World} {base : Nat} {v : Value} {es : List (Int × Int)} (h : OwnE w base v es) (rb p m : Nat) (hr : rb < base) : OwnE (readOn w rb p m) base v es := by
  have := h.far (p := ⟨rb, 1, none⟩) (fun k hk => by have := (World.ownsRow.lt h k hk).1; simp; omega) (.int .i64 ((p : Int) + 1))
  exact this
theorem grown_trans {a b c : World} {r : Option Nat} (h : a.grownBy b r) (k : b.grownBy c r) : a.grownBy c r :=
  ⟨k.os.trans h.os, k.tape.trans h.tape, k.output.trans h.output, Nat.le_trans h.size k.size, fun i hi hne => (k.block i (Nat.lt_of_lt_of_le hi h.size) hne).trans (h.block i hi hne)⟩
theorem grown_of_below {a b : World} {B : Nat} {r : Option Nat} (h : Below B a b) (hB : a.heap.size ≤ B) : a.grownBy b r := ⟨h.os, h.tape, h.output, h.size, fun i hi _ => h.block i (by omega)⟩
/-- What a write to blocks from 'a.heap.size' on leaves of a grown world. -/
theorem grown_below {a b c : World} {B : Nat} {r : Option Nat} (h : a.grownBy b r) (k : Below B b c) (hB : a.heap.size ≤ B) : a.grownBy c r :=
  ⟨k.os.trans h.os, k.tape.trans h.tape, k.output.trans h.output, Nat.le_trans h.size k.size, fun i hi hne => (k.block i (by omega)).trans (h.block i hi hne)⟩
theorem below_of_grown {a b : World} {rb B : Nat} (h : a.grownBy b (some rb)) (hB : B ≤ a.heap.size) (hr : B ≤ rb) : Below B a b :=
  ⟨h.os, h.tape, h.output, h.size, fun k hk => h.block k (by omega) (fun e => by injection e; omega)⟩
end Go.Proofs.Ytdacfeebidhgnaa

/- l20Net: a net is drawn. -/
namespace Go.Proofs.Ytdacfeebidhgnaa
open Go.RowKit
set_option maxRecDepth 100000

/-- A result's box (block tb) not yet written, a net's box (block nb), its edges of the call's own, and of all that was there only the reader (block rb) turned. -/
structure NetBox (w wr : World) (rb tb nb : Nat) (n : Int) (A : Option Addr) (c : Nat) (es : List (Int × Int)) : Prop where
  n0 : wr.cell? ⟨nb, 0, none⟩ = some (.int .i64 n)
  n1 : wr.cell? ⟨nb, 1, none⟩ = some (.slice A es.length c)
  f0 : wr.frozen? ⟨nb, 0, none⟩ = false
  f1 : wr.frozen? ⟨nb, 1, none⟩ = false
  r0 : wr.cell? ⟨tb, 0, none⟩ = some (.int .i64 0)
  r1 : wr.cell? ⟨tb, 1, none⟩ = some (.slice none 0 0)
  g0 : wr.frozen? ⟨tb, 0, none⟩ = false
  g1 : wr.frozen? ⟨tb, 1, none⟩ = false
  own : OwnE wr (nb + 1) (.slice A es.length c) es
  gr : w.grownBy wr (some rb)
  o1 : rb < tb
  o2 : tb < nb
  o3 : w.heap.size ≤ tb
  o4 : nb < wr.heap.size

section
variable {w wr : World} {rb tb nb : Nat} {n : Int} {A : Option Addr} {c : Nat} {es : List (Int × Int)}
theorem NetBox.readOn (h : NetBox w wr rb tb nb n A c es) (p m : Nat) : NetBox w (readOn wr rb p m) rb tb nb n A c es := by
  have o1 := h.o1
  have o2 := h.o2
  exact ⟨(readOn_cell _ _ _ _ _ (by simp; omega)).trans h.n0, (readOn_cell _ _ _ _ _ (by simp; omega)).trans h.n1, (readOn_frozen ..).trans h.f0, (readOn_frozen ..).trans h.f1,
   (readOn_cell _ _ _ _ _ (by simp; omega)).trans h.r0, (readOn_cell _ _ _ _ _ (by simp; omega)).trans h.r1, (readOn_frozen ..).trans h.g0, (readOn_frozen ..).trans h.g1,
   readOn_own h.own _ _ _ (by omega), grown_trans h.gr (readOn_grown ..), h.o1, h.o2, h.o3, by rw [readOn_size]; exact h.o4⟩
theorem NetBox.drew (h : NetBox w wr rb tb nb n A c es) : NetBox w wr.drew rb tb nb n A c es :=
  ⟨h.n0, h.n1, h.f0, h.f1, h.r0, h.r1, h.g0, h.g1, h.own, grown_below h.gr ((Below.refl w.heap.size wr).drew) (Nat.le_refl _), h.o1, h.o2, h.o3, h.o4⟩
/-- The edges have grown in memory; the net's box has not been written yet. -/
theorem NetBox.held {w5 : World} (h : NetBox w wr rb tb nb n A c es) (hb : Below (nb + 1) wr w5) : w5.cell? ⟨nb, 0, none⟩ = some (.int .i64 n) ∧ w5.cell? ⟨nb, 1, none⟩ = some (.slice A es.length c) ∧ w5.frozen? ⟨nb, 0, none⟩ = false ∧ w5.frozen? ⟨nb, 1, none⟩ = false :=
  ⟨(hb.cell (p := ⟨nb, 0, none⟩) (by simp)).trans h.n0, (hb.cell (p := ⟨nb, 1, none⟩) (by simp)).trans h.n1, (hb.frozen (p := ⟨nb, 0, none⟩) (by simp)).trans h.f0, (hb.frozen (p := ⟨nb, 1, none⟩) (by simp)).trans h.f1⟩
theorem NetBox.heldT {w5 : World} (h : NetBox w wr rb tb nb n A c es) (hb : Below (nb + 1) wr w5) : w5.cell? ⟨tb, 0, none⟩ = some (.int .i64 0) ∧ w5.cell? ⟨tb, 1, none⟩ = some (.slice none 0 0) ∧ w5.frozen? ⟨tb, 0, none⟩ = false ∧ w5.frozen? ⟨tb, 1, none⟩ = false := by
  have o2 := h.o2
  exact ⟨(hb.cell (p := ⟨tb, 0, none⟩) (by simp; omega)).trans h.r0, (hb.cell (p := ⟨tb, 1, none⟩) (by simp; omega)).trans h.r1, (hb.frozen (p := ⟨tb, 0, none⟩) (by simp; omega)).trans h.g0, (hb.frozen (p := ⟨tb, 1, none⟩) (by simp; omega)).trans h.g1⟩
/-- And then it has. -/
theorem NetBox.edges {w5 : World} {A' : Option Addr} {c' : Nat} {es' : List (Int × Int)} (h : NetBox w wr rb tb nb n A c es) (hb : Below (nb + 1) wr w5) (ho : OwnE w5 (nb + 1) (.slice A' es'.length c') es') :
    NetBox w (w5.setCell ⟨nb, 1, none⟩ (.slice A' es'.length c')) rb tb nb n A' c' es' := by
  have o1 := h.o1
  have o2 := h.o2
  have o4 := h.o4
  have hs := hb.size
  obtain ⟨q0, q1, q2, q3⟩ := h.held hb
  exact ⟨(World.cell?_setCell_other _ _ _ _ (by simp)).trans q0, World.cell?_setCell_same _ _ _ q1, (World.frozen?_setCell ..).trans q2, (World.frozen?_setCell ..).trans q3,
    (World.cell?_setCell_other _ _ _ _ (by simp <;> omega)).trans ((hb.cell (p := ⟨tb, 0, none⟩) (by simp; omega)).trans h.r0), (World.cell?_setCell_other _ _ _ _ (by simp <;> omega)).trans ((hb.cell (p := ⟨tb, 1, none⟩) (by simp; omega)).trans h.r1),
    (World.frozen?_setCell ..).trans ((hb.frozen (p := ⟨tb, 0, none⟩) (by simp; omega)).trans h.g0), (World.frozen?_setCell ..).trans ((hb.frozen (p := ⟨tb, 1, none⟩) (by simp; omega)).trans h.g1),
    ho.far (fun k hk => by have := (World.ownsRow.lt ho k hk).1; simp; omega) _, grown_below (grown_below h.gr hb (by have := h.o3; omega)) ((Below.refl nb w5).setCell (by simp) _) (by have := h.o3; omega), h.o1, h.o2, h.o3, by simp [World.setCell]; omega⟩
theorem Rd.far {w5 : World} {rb' : Nat} {B : Option Addr} {l cap p nb : Nat} {v : Value} (h : Rd wr rb' B l cap p) (hb : Below (nb + 1) wr w5) (hn : rb' < nb) : Rd (w5.setCell ⟨nb, 1, none⟩ v) rb' B l cap p :=
  (h.keep hb (by omega)).keep ((Below.refl nb w5).setCell (by simp) _) hn
end

def DrawnNet (w : World) (rb : Nat) (B : Option Addr) (l cap p : Nat) (e : Ending) (w' : World) : Prop :=
  ∃ (n : Int) (A : Option Addr) (c : Nat) (es : List (Int × Int)) (q : Nat), e = .returned (.agg #[.int .i64 n, .slice A es.length c]) ∧ OwnE w' w.heap.size (.slice A es.length c) es ∧
    1 ≤ n ∧ n ≤ 7 ∧ es.length ≤ 20 ∧ Rd w' rb B l cap q ∧ q ≤ p + 100 ∧ w.grownBy w' (some rb)

section
variable {w wr : World} {rb tb nb : Nat} {n : Int} {A : Option Addr} {c : Nat} {es : List (Int × Int)}
/-- The net's box is read into the result's. -/
theorem NetBox.result (h : NetBox w wr rb tb nb n A c es) {B : Option Addr} {l cap p q : Nat} (hr : Rd wr rb B l cap q) (hq : q ≤ p + 100) (h1 : 1 ≤ n) (h7 : n ≤ 7) (hle : es.length ≤ 20) :
    DrawnNet w rb B l cap p (.returned (.agg #[.int .i64 n, .slice A es.length c])) ((wr.setCell ⟨tb, 0, none⟩ (.int .i64 n)).setCell ⟨tb, 1, none⟩ (.slice A es.length c)) := by
  have o1 := h.o1
  have o2 := h.o2
  have o3 := h.o3
  refine ⟨n, A, c, es, q, rfl, ((h.own.more (by omega)).far ?_ _).far ?_ _, h1, h7, hle, ?_, hq, ?_⟩
  · intro k hk; have := (World.ownsRow.lt h.own k hk).1; simp; omega
  · intro k hk; have := (World.ownsRow.lt h.own k hk).1; simp; omega
  · exact hr.keep (((Below.refl tb wr).setCell (by simp) _).setCell (by simp) _) o1
  · exact grown_below h.gr (((Below.refl tb wr).setCell (by simp) _).setCell (by simp) _) o3
theorem NetBox.setN (h : NetBox w wr rb tb nb n A c es) (n' : Int) : NetBox w (wr.setCell ⟨nb, 0, none⟩ (.int .i64 n')) rb tb nb n' A c es := by
  have o2 := h.o2
  exact ⟨World.cell?_setCell_same _ _ _ h.n0, (World.cell?_setCell_other _ _ _ _ (by simp)).trans h.n1, (World.frozen?_setCell ..).trans h.f0, (World.frozen?_setCell ..).trans h.f1,
    (World.cell?_setCell_other _ _ _ _ (by simp <;> omega)).trans h.r0, (World.cell?_setCell_other _ _ _ _ (by simp <;> omega)).trans h.r1, (World.frozen?_setCell ..).trans h.g0, (World.frozen?_setCell ..).trans h.g1,
    h.own.far (fun k hk => by have := (World.ownsRow.lt h.own k hk).1; simp; omega) _, grown_below h.gr ((Below.refl nb wr).setCell (by simp) _) (by have := h.o3; omega), h.o1, h.o2, h.o3, by simp [World.setCell]; exact h.o4⟩
theorem NetBox.alloc (h : NetBox w wr rb tb nb n A c es) (o : Obj) : NetBox w (wr.alloc o) rb tb nb n A c es := by
  have hb := (Below.refl wr.heap.size wr).alloc (Nat.le_refl _) o
  have o2 := h.o2
  have o4 := h.o4
  obtain ⟨q0, q1, q2, q3⟩ := h.held (hb.mono (by omega))
  exact ⟨q0, q1, q2, q3, (hb.cell (p := ⟨tb, 0, none⟩) (by simp; omega)).trans h.r0, (hb.cell (p := ⟨tb, 1, none⟩) (by simp; omega)).trans h.r1, (hb.frozen (p := ⟨tb, 0, none⟩) (by simp; omega)).trans h.g0, (hb.frozen (p := ⟨tb, 1, none⟩) (by simp; omega)).trans h.g1,
    World.ownsRow.alloc h.own o, grown_below h.gr hb (by have := h.o3; omega), h.o1, h.o2, h.o3, by simp; omega⟩
end

set_option maxRecDepth 100000 in
set_option maxHeartbeats 8000000 in
theorem l20Net_any (rb : Nat) (B : Option Addr) (l cap p : Nat) (n : Int) (w : World) (h : Rd w rb B l cap p) (hp : p ≤ 900000) (hn : n ≤ 1000) (hn1 : 1 ≤ n) :
    Calls Try.prog 112 #[.pointer (some ⟨rb, 0, none⟩), .int .i64 n] w (DrawnNet w rb B l cap p) := by
  obtain ⟨i0, hi0, hz0, hz1, hz2⟩ := info_parts edge_info
  have hrb := h.lt
  have H1 := h.keep ((Below.refl w.heap.size w).alloc (Nat.le_refl _) (.cells #[.int .i64 0, .slice none 0 0] 29)) hrb
  go_enter Try.func112, Try.ntmps112
  go_wp2_with fail
  refine (pick_any _ _ _ _ _ _ _ H1 (by omega) (by omega)).mono ?_
  rintro e1 w1 ⟨x1, m1, rfl, a1, b1, -, rfl⟩
  have b1 := b1 (by omega)
  have H2 := H1.next m1
  go_wp2_with fail
  refine (pick_any _ _ _ _ _ _ _ H2 (by omega) (by omega)).mono ?_
  rintro e2 w2 ⟨x2, m2, rfl, a2, b2, -, rfl⟩
  have b2 := b2 (by omega)
  have H3 := H2.next m2
  obtain ⟨W, hW⟩ : ∃ W, W = readOn (readOn (w.alloc (.cells #[.int .i64 0, .slice none 0 0] 29)) rb p m1) rb (p + 1) m2 := ⟨_, rfl⟩
  have hs : W.heap.size = w.heap.size + 1 := by rw [hW, readOn_size, readOn_size]; simp
  have r0 : W.cell? ⟨w.heap.size, 0, none⟩ = some (.int .i64 0) := by
    rw [hW, readOn_cell _ _ _ _ _ (by simp; omega), readOn_cell _ _ _ _ _ (by simp; omega), World.cell?_alloc_at _ _ _ _ rfl]; rfl
  have r1 : W.cell? ⟨w.heap.size, 1, none⟩ = some (.slice none 0 0) := by
    rw [hW, readOn_cell _ _ _ _ _ (by simp; omega), readOn_cell _ _ _ _ _ (by simp; omega), World.cell?_alloc_at _ _ _ _ rfl]; rfl
  have g : ∀ i, W.frozen? ⟨w.heap.size, i, none⟩ = false := fun i => by
    rw [hW, readOn_frozen, readOn_frozen]; exact World.frozen?_alloc_at _ _ _ _ rfl
  have hgr : w.grownBy W (some rb) := by
    rw [hW]; exact grown_trans (grown_trans (World.grownBy_alloc _ _ _) (readOn_grown ..)) (readOn_grown ..)
  rw [← hW] at H3 ⊢
  clear hW H1 H2
  have hx : 2 + x1 + x2 / 8 ≤ 7 ∧ 2 ≤ 2 + x1 + x2 / 8 := by omega
  have NB : NetBox w (W.alloc (.cells #[.int .i64 (2 + x1 + x2 / 8), .slice none 0 0] 29)) rb w.heap.size W.heap.size (2 + x1 + x2 / 8) none 0 [] := by
    refine ⟨by rw [World.cell?_alloc_at _ _ _ _ rfl]; rfl, by rw [World.cell?_alloc_at _ _ _ _ rfl]; rfl, World.frozen?_alloc_at _ _ _ _ rfl, World.frozen?_alloc_at _ _ _ _ rfl, ?_, ?_, ?_, ?_, OwnE.nil _ _, ?_, hrb, by omega, Nat.le_refl _, by simp⟩
    · rw [World.cell?_alloc_past _ _ _ (by omega)]; exact r0
    · rw [World.cell?_alloc_past _ _ _ (by omega)]; exact r1
    · rw [World.frozen?_alloc_old _ _ _ (by simp; omega)]; exact g 0
    · rw [World.frozen?_alloc_old _ _ _ (by simp; omega)]; exact g 1
    · exact grown_below hgr ((Below.refl W.heap.size W).alloc (Nat.le_refl _) _) (by omega)
  have H4 := H3.keep ((Below.refl W.heap.size W).alloc (Nat.le_refl _) (.cells #[.int .i64 (2 + x1 + x2 / 8), .slice none 0 0] 29)) (by omega)
  have w1 : IntKind.i64.wrap (2 + x1) = 2 + x1 := IntWalk.i64_in _ (by omega)
  go_wp2_with fail
  generalize hN : 2 + x1 + x2 / 8 = N at *
  obtain ⟨nb, hnb⟩ : ∃ nb, nb = w.heap.size + 1 := ⟨_, rfl⟩
  obtain ⟨V, hV⟩ : ∃ V, V = W.alloc (.cells #[.int .i64 N, .slice none 0 0] 29) := ⟨_, rfl⟩
  clear hN w1
  rw [← hV] at NB H4 ⊢
  rw [hs] at NB
  rw [← hnb] at NB ⊢
  clear hV hnb hs r0 r1 g hgr H3
  refine (pick_any _ _ _ _ _ _ _ H4 (by omega) (by omega)).mono ?_
  rintro e3 w3 ⟨x3, m3, rfl, a3, b3, -, rfl⟩
  have b3 := b3 (by omega)
  have H5 := H4.next m3
  have NB5 := NB.readOn (p + 1 + 1) m3
  clear H4 NB
  obtain ⟨U, hU⟩ : ∃ U, U = readOn V rb (p + 1 + 1) m3 := ⟨_, rfl⟩
  rw [← hU] at H5 NB5 ⊢
  clear hU
  generalize hq : p + 1 + 1 + 1 = q at *
  have hq' : q ≤ p + 3 := by omega
  clear hq
  generalize hT : w.heap.size = T at *
  go_upto_if 19 with (fail)
  go_cut [] (fun wx => ∃ (A : Option Addr) (c : Nat) (es : List (Int × Int)) (q : Nat), es.length ≤ 6 ∧ NetBox w wx rb T nb N A c es ∧ Rd wx rb B l cap q ∧ q ≤ p + 9)
  case first =>
    generalize (x3 == 0) = bb at *
    cases bb
    · go_wp2_with fail
      go_meet
      exact ⟨none, 0, [], q, by simp, NB5, H5, by omega⟩
    · go_wp2_with fail
      go_loopw [6] (fun kk wr => ∃ (k : Int) (A : Option Addr) (c : Nat) (es : List (Int × Int)) (q : Nat), 2 ≤ k ∧ k ≤ N + 1 ∧ kk = .int .i64 k ∧ (es.length : Int) = k - 2 ∧ NetBox w wr rb T nb N A c es ∧ Rd wr rb B l cap q ∧ (q : Int) ≤ p + 1 + k) (fun kk _ => (9 - intOf kk).toNat)
      case atStart => exact ⟨2, none, 0, [], q, by omega, by omega, rfl, rfl, NB5, H5, by omega⟩
      case round =>
        clear NB5 H5 hq'
        obtain ⟨k, A, c, es, q', hk1, hk2, rfl, hlen, NB6, H6, hq6⟩ := hrel
        have HL := Lib.hid hlen
        have hlen9 : es.length ≤ 6 := by omega
        clear hlen
        obtain ⟨n0, n1, f0, f1, _, _, _, _, own, _, o1, o2, o3, o4⟩ := id NB6
        by_cases hkN : k ≤ N
        · have OW := Lib.hid own
          clear own
          have wk : IntKind.i64.wrap (k - 1) = k - 1 := IntWalk.i64_in _ (by omega)
          go_wp2_with fail
          go_region_law (first
            | (refine step_append_lies _ (by rfl) (.tmp 27) (.tmp 35) 27 (by rfl) (nb + 1) 57 i0 _ 2 16 Try.underlying27 hi0 hz0 hz1 hz2 rfl (by omega) (.slice A es.length c) es.length (flat es) (by simp [Act.eval]) (World.ownsRow.alloc (readOn_own OW.out rb q' m4 (by omega)) _)
                ⟨(readOn wr.drew rb q' m4).heap.size, 0, none⟩ 1 1 [.int .i64 (1 + x4), .int .i64 k] (by simp [Act.eval]) (by rfl) (World.news_of_block (cs := #[.int .i64 (1 + x4), .int .i64 k]) (t := 57) (fr := (0, 0)) (heap_alloc_new _ _)) (by simp [Value.oneCell']) (by omega) (by simp [maxLen]; omega) (by omega) (by simp [readOn_size]; omega) _ rfl ?_; intro gg cc w5 hown5 hgrow hat hlt
               have NB7 := NB6.drew.readOn q' m4
               have hbel : Below (nb + 1) (readOn wr.drew rb q' m4) w5 := ((Below.refl (nb + 1) (readOn wr.drew rb q' m4)).alloc (by rw [readOn_size]; simp; omega) _).grown hgrow (by simp [readOn_size]; omega) (fun j hj => (World.ownsRow.lt OW.out j hj).1)
               obtain ⟨_, k1, _, k3⟩ := NB7.held hbel
               have HB := Lib.hid hbel
               clear hbel)
            | (go_simp; go_at_call 100; refine (pick_any _ _ _ _ _ _ _ H6.drew (by omega) (by omega)).mono ?_; rintro e4 w4 ⟨x4, m4, rfl, a4, b4, -, rfl⟩; have b4 := b4 (by omega); have wx : IntKind.i64.wrap (1 + x4) = 1 + x4 := IntWalk.i64_in _ (by omega); have z1 := (NB6.drew.readOn q' m4).n1; have z2 := (NB6.drew.readOn q' m4).o4))
          all_goals
            have NB8 := NB7.edges HB.out (es' := es ++ [(1 + x4, k)]) (by unfold OwnE; rw [flat_append, List.length_append]; exact hown5)
            have H8 := (H6.drew.next m4).far (v := .slice (some ⟨gg, 0, none⟩) (es ++ [(1 + x4, k)]).length cc) HB.out (by omega)
            rw [List.length_append] at NB8 H8
            go_wp2_with fail
            go_roundw
            case rel => exact ⟨k + 1, _, _, _, q' + 1, by omega, by omega, by go_num, by have := HL.out; simp; omega, NB8, H8, by omega⟩
            case measure => simp [intOf]; omega
        · clear own
          go_wp2_with fail
          go_meet
          exact ⟨A, c, es, q', by omega, NB6, H6, by omega⟩
  case rest =>
    clear NB5 H5 hq'
    obtain ⟨A, c, es, q', hle, NB6, H6, hq6⟩ := hcut
    have wN1 : IntKind.i64.wrap (N - 1) = N - 1 := IntWalk.i64_in _ (by omega)
    go_wp2_with fail
    refine (pick_any _ _ _ _ _ _ _ H6 (by omega) (by omega)).mono ?_
    rintro e5 w5 ⟨x5, m5, rfl, a5, b5, -, rfl⟩
    have b5 := b5 (by omega)
    have H7 := H6.next m5
    have NB7 := NB6.readOn q' m5
    clear H6 NB6
    go_upto_block 2 with (fail)
    go_cut [] (fun wx => ∃ (A : Option Addr) (c : Nat) (es : List (Int × Int)) (q : Nat), es.length ≤ 12 ∧ NetBox w wx rb T nb N A c es ∧ Rd wx rb B l cap q ∧ q ≤ p + 30)
    case first =>
      go_wp2_with fail
      go_loopw [7] (fun kk wr => ∃ (j : Int) (A : Option Addr) (c : Nat) (es : List (Int × Int)) (q : Nat), 0 ≤ j ∧ j ≤ 4 ∧ kk = .int .i64 j ∧ (es.length : Int) + j ≤ 10 ∧ NetBox w wr rb T nb N A c es ∧ Rd wr rb B l cap q ∧ (q : Int) + 2 * j ≤ p + 30) (fun kk _ => (intOf kk).toNat)
      case atStart => exact ⟨x5, A, c, es, q' + 1, by omega, by omega, rfl, by omega, NB7, H7, by omega⟩
      case round =>
        clear NB7 H7
        obtain ⟨j, A, c, es, q2, hj0, hj4, rfl, hlen, NB8, H8, hq8⟩ := hrel
        obtain ⟨n0, n1, f0, f1, _, _, _, _, own, _, o1, o2, o3, o4⟩ := id NB8
        have OW := Lib.hid own
        clear own
        by_cases hj : 0 < j
        · by_cases h8 : es.length < 8
          · go_wp2_with fail
            refine (pick_any _ _ _ _ _ _ _ H8 (by omega) (by omega)).mono ?_
            rintro e6 w6 ⟨x6, m6, rfl, a6, b6, -, rfl⟩
            have b6 := b6 (by omega)
            have H9 := H8.next m6
            have NB9 := NB8.readOn q2 m6
            clear H8 NB8 n0 n1 f0 f1 OW
            obtain ⟨W9, hW9⟩ : ∃ W9, W9 = readOn wr rb q2 m6 := ⟨_, rfl⟩
            rw [← hW9] at H9 NB9 ⊢
            clear hW9
            generalize hq9 : q2 + 1 = q9 at *
            have hq9' : (q9 : Int) ≤ p + 31 - 2 * j := by omega
            clear hq9
            obtain ⟨n0, n1, f0, f1, _, _, _, _, own, _, o1, o2, o3, o4⟩ := id NB9
            have OW := Lib.hid own
            clear own
            have wa : IntKind.i64.wrap (1 + x6) = 1 + x6 := IntWalk.i64_in _ (by omega)
            have wb : IntKind.i64.wrap (1 + x6 + 1) = 1 + x6 + 1 := IntWalk.i64_in _ (by omega)
            have wc' : IntKind.i64.wrap (N - (1 + x6)) = N - (1 + x6) := IntWalk.i64_in _ (by omega)
            go_wp2_with fail
            go_region_law (first
              | (refine step_append_lies _ (by rfl) (.tmp 57) (.tmp 69) 27 (by rfl) (nb + 1) 57 i0 _ 2 16 Try.underlying27 hi0 hz0 hz1 hz2 rfl (by omega) (.slice A es.length c) es.length (flat es) (by simp [Act.eval]) (World.ownsRow.alloc (readOn_own OW.out rb q9 m7 (by omega)) _)
                  ⟨(readOn W9.drew rb q9 m7).heap.size, 0, none⟩ 1 1 [.int .i64 (1 + x6), .int .i64 (1 + x6 + 1 + x7)] (by simp [Act.eval]) (by rfl) (World.news_of_block (cs := #[.int .i64 (1 + x6), .int .i64 (1 + x6 + 1 + x7)]) (t := 57) (fr := (0, 0)) (heap_alloc_new _ _)) (by simp [Value.oneCell']) (by omega) (by simp [maxLen]; omega) (by omega) (by simp [readOn_size]; omega) _ rfl ?_; intro gg cc w5 hown5 hgrow hat hlt
                 have NB10 := NB9.drew.readOn q9 m7
                 have hbel : Below (nb + 1) (readOn W9.drew rb q9 m7) w5 := ((Below.refl (nb + 1) (readOn W9.drew rb q9 m7)).alloc (by rw [readOn_size]; simp; omega) _).grown hgrow (by simp [readOn_size]; omega) (fun j hj => (World.ownsRow.lt OW.out j hj).1)
                 obtain ⟨_, k1, _, k3⟩ := NB10.held hbel
                 have HB := Lib.hid hbel
                 clear hbel)
              | (go_simp; go_at_call 100; refine (pick_any _ _ _ _ _ _ _ H9.drew (by omega) (by omega)).mono ?_; rintro e7 w7 ⟨x7, m7, rfl, a7, b7, -, rfl⟩; have b7 := b7 (by omega); have wx : IntKind.i64.wrap (1 + x6 + 1 + x7) = 1 + x6 + 1 + x7 := IntWalk.i64_in _ (by omega); have z0 := (NB9.drew.readOn q9 m7).n0; have z1 := (NB9.drew.readOn q9 m7).n1; have z2 := (NB9.drew.readOn q9 m7).o4))
            all_goals
              have NB11 := NB10.edges HB.out (es' := es ++ [(1 + x6, 1 + x6 + 1 + x7)]) (by unfold OwnE; rw [flat_append, List.length_append]; exact hown5)
              have H11 := (H9.drew.next m7).far (v := .slice (some ⟨gg, 0, none⟩) (es ++ [(1 + x6, 1 + x6 + 1 + x7)]).length cc) HB.out (by omega)
              rw [List.length_append] at NB11 H11
              go_wp2_with fail
              go_roundw
              case rel => exact ⟨j - 1, _, _, _, q9 + 1, by omega, by omega, by go_num, by simp; omega, NB11, H11, by omega⟩
              case measure => simp [intOf]; omega
          · go_wp2_with fail
            go_meet
            exact ⟨A, c, es, q2, by omega, NB8, H8, by omega⟩
        · have hjd : decide (0 < j) = false := by simpa using hj
          go_wp2_with fail
          go_meet
          exact ⟨A, c, es, q2, by omega, NB8, H8, by omega⟩
    case rest =>
      clear NB7 H7
      obtain ⟨A, c, es, q2, hle, NB8, H8, hq8⟩ := hcut
      go_wp2_with fail
      refine (odd_any _ _ _ _ _ _ _ H8 (by omega) (by omega) hn1).mono ?_
      rintro e6 w6 ⟨b, m6, rfl, rfl⟩
      have H9 := H8.next m6
      have NB9 := NB8.readOn q2 m6
      clear H8 NB8
      obtain ⟨W9, hW9⟩ : ∃ W9, W9 = readOn wc rb q2 m6 := ⟨_, rfl⟩
      rw [← hW9] at H9 NB9 ⊢
      clear hW9
      obtain ⟨n0, n1, f0, f1, r0, r1, g0, g1, _, _, o1, o2, o3, o4⟩ := id NB9
      cases b
      · go_wp2_with fail
        refine bodyPost_ret (v := .agg #[.int .i64 N, .slice A es.length c]) (by simp [results, Try.results112, go_sem, *]) rfl ?_
        exact NB9.result H9 (by omega) (by omega) (by omega) (by omega)
      · go_wp2_with fail
        refine (pick_any _ _ _ _ _ _ _ H9 (by omega) (by omega)).mono ?_
        rintro e7 w7 ⟨x7, m7, rfl, a7, b7, -, rfl⟩
        have b7 := b7 (by omega)
        have HA := H9.next m7
        have NA := NB9.readOn (q2 + 1) m7
        clear H9 NB9 n0 n1 f0 f1 r0 r1 g0 g1
        obtain ⟨W8, hW8⟩ : ∃ W8, W8 = readOn W9 rb (q2 + 1) m7 := ⟨_, rfl⟩
        rw [← hW8] at HA NA ⊢
        clear hW8
        obtain ⟨n0, n1, f0, f1, r0, r1, g0, g1, own, _, _, _, _, p4⟩ := id NA
        have h012 : x7 = 0 ∨ x7 = 1 ∨ x7 = 2 := by omega
        rcases h012 with rfl | rfl | rfl
        · go_wp2_with fail
          have HB := HA.keep ((Below.refl W8.heap.size W8).alloc (Nat.le_refl _) (.cells #[.int .i64 1, .int .i64 7] 3)) HA.lt
          have NC := NA.alloc (.cells #[.int .i64 1, .int .i64 7] 3)
          have k0 : (W8.alloc (.cells #[.int .i64 1, .int .i64 7] 3)).cell? ⟨W8.heap.size, 0, none⟩ = some (.int .i64 1) := by rw [World.cell?_alloc_at _ _ _ _ rfl]; rfl
          have k1 : (W8.alloc (.cells #[.int .i64 1, .int .i64 7] 3)).cell? ⟨W8.heap.size, 1, none⟩ = some (.int .i64 7) := by rw [World.cell?_alloc_at _ _ _ _ rfl]; rfl
          have hlt := HA.lt
          clear HA NA n0 n1 f0 f1 r0 r1 g0 g1 own
          generalize hs8 : W8.heap.size = s8 at *
          refine (pick_any _ _ _ _ _ _ _ HB (by omega) (by omega)).mono ?_
          rintro e8 w8 ⟨x8, m8, rfl, a8, b8, -, rfl⟩
          have b8 := b8 (by omega)
          have HD := HB.next m8
          have ND := NC.readOn (q2 + 1 + 1) m8
          have i0 := (readOn_cell (W8.alloc (.cells #[.int .i64 1, .int .i64 7] 3)) rb (q2 + 1 + 1) m8 ⟨s8, 0, none⟩ (by simp; omega)).trans k0
          have i1 := (readOn_cell (W8.alloc (.cells #[.int .i64 1, .int .i64 7] 3)) rb (q2 + 1 + 1) m8 ⟨s8, 1, none⟩ (by simp; omega)).trans k1
          obtain ⟨n0, n1, f0, f1, r0, r1, g0, g1, _, _, _, _, _, _⟩ := id ND
          clear HB NC k0 k1
          have h01 : x8 = 0 ∨ x8 = 1 := by omega
          rcases h01 with rfl | rfl
          · go_wp2_with fail
            refine bodyPost_ret (v := .agg #[.int .i64 1, .slice A es.length c]) (by simp [results, Try.results112, go_sem, *]) rfl ?_
            exact (ND.setN 1).result (HD.keep ((Below.refl nb _).setCell (by simp) _) (by omega)) (by omega) (by omega) (by omega) (by omega)
          · go_wp2_with fail
            refine bodyPost_ret (v := .agg #[.int .i64 7, .slice A es.length c]) (by simp [results, Try.results112, go_sem, *]) rfl ?_
            exact (ND.setN 7).result (HD.keep ((Below.refl nb _).setCell (by simp) _) (by omega)) (by omega) (by omega) (by omega) (by omega)
        · have OW := Lib.hid own
          clear own
          go_wp2_with (at_builtin; (refine wpList_append_lies _ rfl (.tmp 90) (.tmp 92) 27 rfl (nb + 1) 57 i0 _ 2 16 Try.underlying27 hi0 hz0 hz1 hz2 rfl (by omega) (.slice A es.length c) es.length (flat es) rfl (World.ownsRow.alloc OW.out _) ⟨W8.heap.size, 0, none⟩ 1 1 [.int .i64 2, .int .i64 2] rfl rfl (World.news_of_block (cs := #[.int .i64 2, .int .i64 2]) (t := 57) (fr := (0, 0)) (heap_alloc_new _ _)) (by simp [Value.oneCell']) (by omega) (by simp [maxLen]; omega) (by omega) (by simp; omega) _ rfl ?_); intro gg cc w5 hown5 hgrow hat hlt; have hbel : Below (nb + 1) W8 w5 := ((Below.refl (nb + 1) W8).alloc (by omega) _).grown hgrow (by simp; omega) (fun j hj => (World.ownsRow.lt OW.out j hj).1); obtain ⟨k0, k1, k2, k3⟩ := NA.held hbel; obtain ⟨k4, k5, k6, k7⟩ := NA.heldT hbel)
          have NC := NA.edges hbel (es' := es ++ [(2, 2)]) (by unfold OwnE; rw [flat_append, List.length_append]; exact hown5)
          have HC := HA.far (v := .slice (some ⟨gg, 0, none⟩) (es ++ [(2, 2)]).length cc) hbel (by omega)
          simp only [List.length_append, List.length_singleton] at NC HC
          refine bodyPost_ret (v := .agg #[.int .i64 N, .slice (some ⟨gg, 0, none⟩) (es.length + 1) cc]) (by simp [results, Try.results112, go_sem, *]) rfl ?_
          have hR := NC.result HC (p := p) (by omega) (by omega) (by omega) (by simp; omega)
          simp only [List.length_append, List.length_singleton] at hR
          exact hR
        · go_wp2_with (at_make; (refine wpList_make_full _ rfl _ _ 27 rfl (nb + 1) 57 i0 _ 2 Try.underlying27 hi0 hz0 hz1 .i64 .i64 10 10 10 rfl rfl rfl rfl (by rw [hz2]; omega) (by simp [maxLen]) (by omega) ?_); intro w5 hown5 hg5; have hbel : Below (nb + 1) W8 w5 := (Below.refl (nb + 1) W8).grown hg5 (by omega) (by simp); obtain ⟨k0, k1, k2, k3⟩ := NA.held hbel; obtain ⟨k4, k5, k6, k7⟩ := NA.heldT hbel)
          have hst : OwnE w5 (nb + 1) (.slice (some ⟨W8.heap.size, 0, none⟩) 10 10) (List.replicate 10 (0, 0)) := by
            unfold OwnE; rw [List.length_replicate, ← madeCells_edges]; exact hown5
          have NC := NA.edges hbel (es' := List.replicate 10 (0, 0)) (by rw [List.length_replicate]; exact hst)
          have HC := HA.far (v := .slice (some ⟨W8.heap.size, 0, none⟩) 10 10) hbel (by omega)
          simp only [List.length_replicate] at NC
          refine bodyPost_ret (v := .agg #[.int .i64 N, .slice (some ⟨W8.heap.size, 0, none⟩) 10 10]) (by simp [results, Try.results112, go_sem, *]) rfl ?_
          have hR := NC.result HC (p := p) (by omega) (by omega) (by omega) (by simp)
          simp only [List.length_replicate] at hR
          exact hR
end Go.Proofs.Ytdacfeebidhgnaa

/- The draws of a net with a state, a node or a place. -/
namespace Go.Proofs.Ytdacfeebidhgnaa
open Go.RowKit
set_option maxRecDepth 100000

/-- A net and a number have been drawn; of what was there only the reader turned. -/
def DrawnNetInt (w : World) (rb : Nat) (B : Option Addr) (l cap p : Nat) (e : Ending) (w' : World) : Prop :=
  ∃ (n : Int) (A : Option Addr) (c : Nat) (es : List (Int × Int)) (s : Int) (q : Nat), e = .returned (.tuple #[.agg #[.int .i64 n, .slice A es.length c], .int .i64 s]) ∧ OwnE w' w.heap.size (.slice A es.length c) es ∧
    1 ≤ n ∧ n ≤ 7 ∧ es.length ≤ 20 ∧ -1000 ≤ s ∧ s ≤ 1000 ∧ Rd w' rb B l cap q ∧ q ≤ p + 200 ∧ w.grownBy w' (some rb)

/-- A drawn net in a box of its own (block nb), behind a result's box (block tb) that has not been written yet. -/
structure NetBox2 (w wr : World) (rb tb nb : Nat) (n : Int) (A : Option Addr) (c : Nat) (es : List (Int × Int)) : Prop where
  n0 : wr.cell? ⟨nb, 0, none⟩ = some (.int .i64 n)
  n1 : wr.cell? ⟨nb, 1, none⟩ = some (.slice A es.length c)
  r0 : wr.cell? ⟨tb, 0, none⟩ = some (.int .i64 0)
  r1 : wr.cell? ⟨tb, 1, none⟩ = some (.slice none 0 0)
  g0 : wr.frozen? ⟨tb, 0, none⟩ = false
  g1 : wr.frozen? ⟨tb, 1, none⟩ = false
  own : OwnE wr (tb + 1) (.slice A es.length c) es
  gr : w.grownBy wr (some rb)
  o1 : rb < tb
  o2 : tb < nb
  o3 : w.heap.size ≤ tb
  o4 : nb < wr.heap.size

section
variable {w wr w1 : World} {rb tb nb : Nat} {n : Int} {A : Option Addr} {c : Nat} {es : List (Int × Int)}
theorem NetBox2.readOn (h : NetBox2 w wr rb tb nb n A c es) (p m : Nat) : NetBox2 w (readOn wr rb p m) rb tb nb n A c es := by
  have o1 := h.o1
  have o2 := h.o2
  exact ⟨(readOn_cell _ _ _ _ _ (by simp; omega)).trans h.n0, (readOn_cell _ _ _ _ _ (by simp; omega)).trans h.n1,
   (readOn_cell _ _ _ _ _ (by simp; omega)).trans h.r0, (readOn_cell _ _ _ _ _ (by simp; omega)).trans h.r1, (readOn_frozen ..).trans h.g0, (readOn_frozen ..).trans h.g1,
   readOn_own h.own _ _ _ (by omega), grown_trans h.gr (readOn_grown ..), h.o1, h.o2, h.o3, by rw [readOn_size]; exact h.o4⟩
theorem NetBox2.drew (h : NetBox2 w wr rb tb nb n A c es) : NetBox2 w wr.drew rb tb nb n A c es :=
  ⟨h.n0, h.n1, h.r0, h.r1, h.g0, h.g1, h.own, grown_below h.gr ((Below.refl w.heap.size wr).drew) (Nat.le_refl _), h.o1, h.o2, h.o3, h.o4⟩
theorem NetBox2.start {t t' : TypeId} (hr : rb < w.heap.size) (own : OwnE w1 (w.alloc (.cells #[.int .i64 0, .slice none 0 0] t)).heap.size (.slice A es.length c) es)
    (hg : (w.alloc (.cells #[.int .i64 0, .slice none 0 0] t)).grownBy w1 (some rb)) :
    NetBox2 w (w1.alloc (.cells #[.int .i64 n, .slice A es.length c] t')) rb w.heap.size w1.heap.size n A c es := by
  have hs := hg.size
  simp only [World.size_alloc] at hs own
  have hb := (Below.refl w1.heap.size w1).alloc (Nat.le_refl _) (.cells #[.int .i64 n, .slice A es.length c] t')
  have ht : w1.heap[w.heap.size]? = (w.alloc (.cells #[.int .i64 0, .slice none 0 0] t)).heap[w.heap.size]? := hg.block _ (by simp) (by simp; omega)
  refine ⟨by rw [World.cell?_alloc_at _ _ _ _ rfl]; rfl, by rw [World.cell?_alloc_at _ _ _ _ rfl]; rfl, ?_, ?_, ?_, ?_, own.below hb own.lt, ?_, hr, by omega, Nat.le_refl _, by simp⟩
  · rw [hb.cell (p := ⟨w.heap.size, 0, none⟩) (by simp; omega), World.cell?_of_block (w := w.alloc (.cells #[.int .i64 0, .slice none 0 0] t)) ht, World.cell?_alloc_at _ _ _ _ rfl]; rfl
  · rw [hb.cell (p := ⟨w.heap.size, 1, none⟩) (by simp; omega), World.cell?_of_block (w := w.alloc (.cells #[.int .i64 0, .slice none 0 0] t)) ht, World.cell?_alloc_at _ _ _ _ rfl]; rfl
  · rw [hb.frozen (p := ⟨w.heap.size, 0, none⟩) (by simp; omega), World.frozen?_of_block (w := w.alloc (.cells #[.int .i64 0, .slice none 0 0] t)) ht]; exact World.frozen?_alloc_at _ _ _ _ rfl
  · rw [hb.frozen (p := ⟨w.heap.size, 1, none⟩) (by simp; omega), World.frozen?_of_block (w := w.alloc (.cells #[.int .i64 0, .slice none 0 0] t)) ht]; exact World.frozen?_alloc_at _ _ _ _ rfl
  · exact grown_below (grown_trans (World.grownBy_alloc _ _ _) hg) hb (by omega)
theorem NetBox2.result (h : NetBox2 w wr rb tb nb n A c es) {B : Option Addr} {l cap p q : Nat} {s : Int} (hr : Rd wr rb B l cap q) (hq : q ≤ p + 200) (h1 : 1 ≤ n) (h7 : n ≤ 7) (hle : es.length ≤ 20) (s1 : -1000 ≤ s) (s2 : s ≤ 1000) :
    DrawnNetInt w rb B l cap p (.returned (.tuple #[.agg #[.int .i64 n, .slice A es.length c], .int .i64 s])) ((wr.setCell ⟨tb, 0, none⟩ (.int .i64 n)).setCell ⟨tb, 1, none⟩ (.slice A es.length c)) := by
  have o1 := h.o1
  have o2 := h.o2
  have o3 := h.o3
  refine ⟨n, A, c, es, s, q, rfl, ((h.own.more (by omega)).far ?_ _).far ?_ _, h1, h7, hle, s1, s2, ?_, hq, ?_⟩
  · intro k hk; have := (World.ownsRow.lt h.own k hk).1; simp; omega
  · intro k hk; have := (World.ownsRow.lt h.own k hk).1; simp; omega
  · exact hr.keep (((Below.refl tb wr).setCell (by simp) _).setCell (by simp) _) o1
  · exact grown_below h.gr (((Below.refl tb wr).setCell (by simp) _).setCell (by simp) _) o3
end

end Go.Proofs.Ytdacfeebidhgnaa

namespace Go.Proofs.Ytdacfeebidhgnaa
open Go.RowKit
set_option maxRecDepth 100000

end Go.Proofs.Ytdacfeebidhgnaa

namespace Go.Proofs.Ytdacfeebidhgnaa
open Go.RowKit
set_option maxRecDepth 100000

theorem times_bit (x P : Int) (h0 : 0 ≤ x) (h1 : x < 2) (p0 : 1 ≤ P) (p1 : P ≤ 512) : ∃ M : Int, IntKind.i64.wrap (x * P) = M ∧ 0 ≤ M ∧ M ≤ 512 := by
  have : x = 0 ∨ x = 1 := by omega
  rcases this with rfl | rfl
  · exact ⟨0, by rw [Int.zero_mul]; exact IntWalk.i64_in _ (by omega), by omega, by omega⟩
  · exact ⟨P, by rw [Int.one_mul]; exact IntWalk.i64_in _ (by omega), by omega, by omega⟩

end Go.Proofs.Ytdacfeebidhgnaa

/- The draws for the laws of the first chapter: from a code to a net, and a number. -/
namespace Go.Proofs.Ytdacfeebidhgnaa
open Go.RowKit
set_option maxRecDepth 100000

/-- What a draw of a net leaves. -/
def GotNet (w : World) (e : Ending) (w' : World) : Prop :=
  ∃ (n : Int) (A : Option Addr) (c : Nat) (es : List (Int × Int)), e = .returned (.agg #[.int .i64 n, .slice A es.length c]) ∧ OwnE w' w.heap.size (.slice A es.length c) es ∧ 1 ≤ n ∧ n ≤ 7 ∧ es.length ≤ 20 ∧ Below w.heap.size w w'
def GotNetInt (w : World) (e : Ending) (w' : World) : Prop :=
  ∃ (n : Int) (A : Option Addr) (c : Nat) (es : List (Int × Int)) (s : Int), e = .returned (.tuple #[.agg #[.int .i64 n, .slice A es.length c], .int .i64 s]) ∧ OwnE w' w.heap.size (.slice A es.length c) es ∧ 1 ≤ n ∧ n ≤ 7 ∧ es.length ≤ 20 ∧ -1000 ≤ s ∧ s ≤ 1000 ∧ Below w.heap.size w w'

/-- A result's box at the end: what it held when the call began. -/
theorem tbox {w w1 w2 : World} {t : TypeId} {cs : Array Value} {rb : Nat} (hb : Below (w.alloc (.cells cs t)).heap.size (w.alloc (.cells cs t)) w1) (hg : w1.grownBy w2 (some rb)) (hr : w.heap.size < rb) (i : Nat) :
    w2.cell? ⟨w.heap.size, i, none⟩ = cs[i]? ∧ w2.frozen? ⟨w.heap.size, i, none⟩ = false := by
  have hs := hb.size
  simp only [World.size_alloc] at hs
  have h2 : w2.heap[w.heap.size]? = (w.alloc (.cells cs t)).heap[w.heap.size]? := (hg.block _ (by omega) (by simp; omega)).trans (hb.block _ (by simp))
  exact ⟨(World.cell?_of_block (w := w.alloc (.cells cs t)) h2).trans (by rw [World.cell?_alloc_at _ _ _ _ rfl]), (World.frozen?_of_block (w := w.alloc (.cells cs t)) h2).trans (World.frozen?_alloc_at _ _ _ _ rfl)⟩
theorem tbelow {w w1 w2 : World} {t : TypeId} {cs : Array Value} {rb : Nat} (hb : Below (w.alloc (.cells cs t)).heap.size (w.alloc (.cells cs t)) w1) (hg : w1.grownBy w2 (some rb)) (hr : w.heap.size < rb) : Below w.heap.size w w2 := by
  have hs := hb.size
  simp only [World.size_alloc] at hs
  exact (((Below.refl _ _).alloc (Nat.le_refl _) _).trans (hb.mono (by simp))).trans (below_of_grown hg (by omega) (by omega))

end Go.Proofs.Ytdacfeebidhgnaa
