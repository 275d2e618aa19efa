/- The reader of a code: what a pick gives and what it leaves. -/
import Derived.Test.YtdacfeebidhgnaaEd
import Derived.Test.YtdacfeebidhgnaaRows
import Derived.OwnWalk
import Derived.Deep.QuietTactic
import Derived.BigQuiet
import Derived.BigGuardPart
import Derived.Laws.BitsAllLaws
import Derived.Laws.BitsLemmas
import Derived.Deep.RegionHeld3
import Derived.IntWalk
namespace Go.Proofs.Ytdacfeebidhgnaa
open Go.RowKit
set_option maxRecDepth 100000

/-- The slice whose head is 'A' reads, below block B, as so many bytes. -/
def BytesIn (w : World) (B : Nat) (A : Option Addr) (l : Nat) : Prop :=
  ∀ k, k < l → ∃ b off x, A = some ⟨b, off, none⟩ ∧ b < B ∧ w.cell? ⟨b, off + k, none⟩ = some (.int .u8 x) ∧ 0 ≤ x ∧ x ≤ 255
theorem BytesIn.keep {w w' : World} {B : Nat} {A : Option Addr} {l : Nat} (h : BytesIn w B A l) (hk : ∀ p : Addr, p.block < B → w'.cell? p = w.cell? p) : BytesIn w' B A l :=
  fun k hl => by
    obtain ⟨b, off, x, e, hb, hc, h0, h1⟩ := h k hl
    exact ⟨b, off, x, e, hb, (hk _ hb).trans hc, h0, h1⟩
theorem BytesIn.less {w : World} {B : Nat} {A : Option Addr} {l l' : Nat} (h : BytesIn w B A l) (hl : l' ≤ l) : BytesIn w B A l' := fun k hk => h k (by omega)
theorem BytesIn.more {w : World} {B B' : Nat} {A : Option Addr} {l : Nat} (h : BytesIn w B A l) (hB : B ≤ B') : BytesIn w B' A l := fun k hk => by
    obtain ⟨b, off, x, e, hb, hc, h0, h1⟩ := h k hk
    exact ⟨b, off, x, e, by omega, hc, h0, h1⟩

/-- Block rb is a reader: of so many bytes, of which so many places have been read. -/
structure Rd (w : World) (rb : Nat) (A : Option Addr) (l cap : Nat) (p : Nat) : Prop where
  c0 : w.cell? ⟨rb, 0, none⟩ = some (.slice A l cap)
  c1 : w.cell? ⟨rb, 1, none⟩ = some (.int .i64 p)
  f1 : w.frozen? ⟨rb, 1, none⟩ = false
  bytes : BytesIn w rb A l
  len : l ≤ 2000
theorem Rd.lt {w : World} {rb : Nat} {A : Option Addr} {l cap p : Nat} (h : Rd w rb A l cap p) : rb < w.heap.size := World.block_lt_of_cell? w _ h.c0
theorem Rd.keep {w w' : World} {rb B : Nat} {A : Option Addr} {l cap p : Nat} (h : Rd w rb A l cap p) (hb : Below B w w') (hB : rb < B) : Rd w' rb A l cap p :=
  ⟨(hb.cell (p := ⟨rb, 0, none⟩) hB).trans h.c0, (hb.cell (p := ⟨rb, 1, none⟩) hB).trans h.c1, (hb.frozen (p := ⟨rb, 1, none⟩) hB).trans h.f1, h.bytes.keep fun p hp => hb.cell (by omega), h.len⟩

/-- One place more has been read; nothing else has turned. -/
def readOn (w : World) (rb p m : Nat) : World := (w.setCell ⟨rb, 1, none⟩ (.int .i64 ((p : Int) + 1))).drewN m
theorem Rd.next {w : World} {rb : Nat} {A : Option Addr} {l cap p : Nat} (h : Rd w rb A l cap p) (m : Nat) : Rd (readOn w rb p m) rb A l cap (p + 1) := by
  unfold readOn
  refine ⟨?_, ?_, ?_, ?_, h.len⟩
  · exact (World.cell?_setCell_other w ⟨rb, 1, none⟩ ⟨rb, 0, none⟩ _ (by simp)).trans h.c0
  · exact World.cell?_setCell_same w ⟨rb, 1, none⟩ _ h.c1
  · show (w.setCell _ _).frozen? _ = false
    rw [World.frozen?_setCell]; exact h.f1
  · exact h.bytes.keep fun p hp => World.cell?_setCell_other w ⟨rb, 1, none⟩ p _ (fun e => by rw [← e] at hp; simp at hp)
theorem Rd.at_ {w : World} {rb : Nat} {A : Option Addr} {l cap p : Nat} (h : Rd w rb A l cap p) (j : Nat) (hj : j < l) : ∃ b off x, A = some ⟨b, off, none⟩ ∧ b < rb ∧ w.cell? ⟨b, off + j, none⟩ = some (.int .u8 x) ∧ 0 ≤ x ∧ x ≤ 255 := h.bytes j hj

def Picked (w : World) (rb p : Nat) (n : Int) (e : Ending) (w' : World) : Prop :=
  ∃ x m, e = .returned (.int .i64 x) ∧ 0 ≤ x ∧ (1 ≤ n → x < n) ∧ (n < 1 → x = 0) ∧ w' = readOn w rb p m

theorem xor_nonneg (x y : Int) (hx : 0 ≤ x) (hx' : x < 4611686018427387904) (hy : 0 ≤ y) (hy' : y < 4611686018427387904) : 0 ≤ bits .xor .i64 x y := by
  have small : ∀ z : Int, 0 ≤ z → z < 4611686018427387904 → (BitVec.ofInt 64 z).toNat < 2 ^ 62 := fun z h0 h1 => by
    rw [BitVec.toNat_ofInt]; omega
  have hlt : (BitVec.ofInt 64 x ^^^ BitVec.ofInt 64 y).toNat < 2 ^ 62 := by
    rw [BitVec.toNat_xor]; exact Nat.xor_lt_two_pow (small x hx hx') (small y hy hy')
  show 0 ≤ IntKind.i64.wrap (((BitVec.ofInt 64 x ^^^ BitVec.ofInt 64 y).toNat : Nat) : Int)
  rw [IntWalk.i64_in _ (by omega)]
  omega

theorem pick_any (rb : Nat) (A : Option Addr) (l cap p : Nat) (n : Int) (w : World) (h : Rd w rb A l cap p) (hp : p ≤ 1000000) (hn : n ≤ 1000000) :
    Calls Try.prog 100 #[.pointer (some ⟨rb, 0, none⟩), .int .i64 n] w (Picked w rb p n) := by
  obtain ⟨c0, c1, f1, _, hl⟩ := id h
  by_cases hn1 : n < 1
  · go_enter Try.func100, Try.ntmps100
    go_wp2
    go_returns
    exact ⟨0, 0, rfl, by omega, by omega, fun _ => rfl, rfl⟩
  · by_cases hl0 : l = 0
    · subst hl0
      go_enter Try.func100, Try.ntmps100
      go_wp2
      go_returns
      exact ⟨0, 0, rfl, by omega, by omega, fun _ => rfl, rfl⟩
    · by_cases hk : p < l
      · obtain ⟨b, off, x, rfl, hb, g, x0, x1⟩ := h.at_ p hk
        have hq : ((l : Int) == 0) = false := by simpa using hl0
        have hm := Int.emod_nonneg x (b := n) (by omega)
        have hm2 := Int.emod_lt_of_pos x (b := n) (by omega)
        go_enter Try.func100, Try.ntmps100
        go_wp2
        go_returns
        exact ⟨x % n, 0, rfl, hm, fun _ => hm2, fun h => by omega, rfl⟩
      · obtain ⟨b, off, x, rfl, hb, g, x0, x1⟩ := h.at_ (p % l) (Nat.mod_lt _ (by omega))
        obtain ⟨b', off', y, e, hb', g', y0, y1⟩ := h.at_ ((p * 7 + 3) % l) (Nat.mod_lt _ (by omega))
        obtain ⟨rfl, rfl⟩ : b = b' ∧ off = off' := by simpa using e
        have hq : ((l : Int) == 0) = false := by simpa using hl0
        have t1 : (p : Int).tmod (l : Int) = ((p % l : Nat) : Int) := by rw [Int.natCast_emod, Int.tmod_eq_emod_of_nonneg (by omega)]
        have t2 : ((p : Int) * 7 + 3).tmod (l : Int) = (((p * 7 + 3) % l : Nat) : Int) := by rw [Int.natCast_emod, Int.tmod_eq_emod_of_nonneg (by omega)]; simp
        have t3 : (p : Int).tdiv (l : Int) = ((p / l : Nat) : Int) := by rw [Int.natCast_ediv, Int.tdiv_eq_ediv_of_nonneg (by omega)]
        have q1 : p % l < l := Nat.mod_lt _ (by omega)
        have q2 : (p * 7 + 3) % l < l := Nat.mod_lt _ (by omega)
        have q3 : p / l ≤ 1000000 := Nat.le_trans (Nat.div_le_self _ _) hp
        have w1 : IntKind.i64.wrap ((p : Int) * 7) = (p : Int) * 7 := IntWalk.i64_in _ (by omega)
        have w2 : IntKind.i64.wrap ((p : Int) * 7 + 3) = (p : Int) * 7 + 3 := IntWalk.i64_in _ (by omega)
        generalize p % l = m1 at *
        generalize (p * 7 + 3) % l = m2 at *
        generalize p / l = m3 at *
        have G : (w.setCell ⟨rb, 1, none⟩ (.int .i64 ((p : Int) + 1))).cell? ⟨b, off + m1, none⟩ = some (.int .u8 x) := by
          rw [World.cell?_setCell_other _ _ _ _ (by intro e; injection e; omega)]; exact g
        have G' : (w.setCell ⟨rb, 1, none⟩ (.int .i64 ((p : Int) + 1))).cell? ⟨b, off + m2, none⟩ = some (.int .u8 y) := by
          rw [World.cell?_setCell_other _ _ _ _ (by intro e; injection e; omega)]; exact g'
        have i1 : (m1 : Int) < l := by omega
        have i2 : (m2 : Int) < l := by omega
        clear e h
        go_enter Try.func100, Try.ntmps100
        go_wp2
        go_quiet (fail)
        go_wp2
        go_returns
        obtain ⟨r, hr, hr0⟩ : ∃ r : Int, bits BinOp.xor IntKind.i64 (x * 131 + y * 1117 + (p : Int) * 29 + (m3 : Int) * 53) ((x * 131 + y * 1117 + (p : Int) * 29 + (m3 : Int) * 53) / 64) = r ∧ 0 ≤ r := by
          exact ⟨_, rfl, xor_nonneg _ _ (by omega) (by omega) (by omega) (by omega)⟩
        have h1 : 0 ≤ r.tmod n := Int.tmod_nonneg _ hr0
        have h2 : r.tmod n < n := Int.tmod_lt_of_pos _ (by omega)
        rw [← hr] at h1 h2
        exact ⟨_, nq, rfl, h1, fun _ => h2, fun h => by omega, rfl⟩

def Odd (w : World) (rb p : Nat) (e : Ending) (w' : World) : Prop := ∃ (b : Bool) (m : Nat), e = .returned (.bool b) ∧ w' = readOn w rb p m

theorem odd_any (rb : Nat) (A : Option Addr) (l cap p : Nat) (n : Int) (w : World) (h : Rd w rb A l cap p) (hp : p ≤ 1000000) (hn : n ≤ 1000000) (hn1 : 1 ≤ n) :
    Calls Try.prog 134 #[.pointer (some ⟨rb, 0, none⟩), .int .i64 n] w (Odd w rb p) := by
  have hd : decide (0 < n) = true := by simp; omega
  go_enter Try.func134, Try.ntmps134
  go_wp2_with fail
  refine (pick_any _ _ _ _ _ _ _ h hp hn).mono ?_
  rintro e w' ⟨x, m, rfl, h0, h1, h2, rfl⟩
  go_wp2_with fail
  go_returns
  exact ⟨_, m, rfl, rfl⟩

/-- What opening a code gives: a reader in a new block. -/
def Opened (w : World) (e : Ending) (w' : World) : Prop :=
  ∃ rb A l cap, e = .returned (.pointer (some ⟨rb, 0, none⟩)) ∧ Rd w' rb A l cap 0 ∧ w.heap.size ≤ rb ∧ Below w.heap.size w w'

theorem opened (A : Option Addr) (l cap : Nat) (w : World) (t : TypeId) (hb : BytesIn w w.heap.size A l) (hl : l ≤ 2000) : Rd (w.alloc (.cells #[.slice A l cap, .int .i64 0] t)) w.heap.size A l cap 0 :=
  ⟨by rw [World.cell?_alloc_at _ _ _ _ rfl]; rfl, by rw [World.cell?_alloc_at _ _ _ _ rfl]; rfl, World.frozen?_alloc_at _ _ _ _ rfl,
    hb.keep fun p hp => ((Below.refl w.heap.size w).alloc (Nat.le_refl _) _).cell hp, hl⟩

theorem open_any (A : Option Addr) (l cap : Nat) (w : World) (hb : BytesIn w w.heap.size A l) (hl : l ≤ 1048576) (hc : l ≤ cap) :
    Calls Try.prog 95 #[.slice A l cap] w (Opened w) := by
  by_cases hbig : 2000 < l
  · obtain ⟨b, off, x, rfl, hbb, g, x0, x1⟩ := hb 0 (by omega)
    go_enter Try.func95, Try.ntmps95
    go_wp2
    go_returns
    exact ⟨w.heap.size, _, _, _, rfl, opened _ _ _ _ _ (hb.less (by omega)) (by omega), Nat.le_refl _, (Below.refl _ _).alloc (Nat.le_refl _) _⟩
  · go_enter Try.func95, Try.ntmps95
    go_wp2
    go_returns
    exact ⟨w.heap.size, _, _, _, rfl, opened _ _ _ _ _ hb (by omega), Nat.le_refl _, (Below.refl _ _).alloc (Nat.le_refl _) _⟩

theorem Rd.drewN {w : World} {rb : Nat} {A : Option Addr} {l cap p : Nat} (h : Rd w rb A l cap p) (m : Nat) : Rd (w.drewN m) rb A l cap p := ⟨h.c0, h.c1, h.f1, h.bytes, h.len⟩
theorem Rd.drew {w : World} {rb : Nat} {A : Option Addr} {l cap p : Nat} (h : Rd w rb A l cap p) : Rd w.drew rb A l cap p := ⟨h.c0, h.c1, h.f1, h.bytes, h.len⟩
theorem readOn_size (w : World) (rb p m : Nat) : (readOn w rb p m).heap.size = w.heap.size := by unfold readOn; simp [World.setCell]
theorem readOn_heap (w : World) (rb p m k : Nat) (h : k ≠ rb) : (readOn w rb p m).heap[k]? = w.heap[k]? := Below.heap_setCell w _ _ _ h
theorem readOn_cell (w : World) (rb p m : Nat) (a : Addr) (h : a.block ≠ rb) : (readOn w rb p m).cell? a = w.cell? a := World.cell?_of_block (readOn_heap _ _ _ _ _ h)
theorem readOn_frozen (w : World) (rb p m : Nat) (a : Addr) : (readOn w rb p m).frozen? a = w.frozen? a := World.frozen?_setCell ..
theorem readOn_grown (w : World) (rb p m : Nat) : w.grownBy (readOn w rb p m) (some rb) :=
  ⟨rfl, rfl, rfl, by rw [readOn_size]; exact Nat.le_refl _, fun k _ hk => readOn_heap _ _ _ _ _ (fun e => hk (by rw [e]))⟩
theorem readOn_own {w : World} {base : Nat} {v : Value} {es : List (Int × Int)} (h : OwnE w base v es) (rb p m : Nat) (hr : rb < base) : OwnE (readOn w rb p m) base v es := by
  have := h.far (p := ⟨rb, 1, none⟩) (fun k hk => by have := (World.ownsRow.lt h k hk).1; simp; omega) (.int .i64 ((p : Int) + 1))
  exact this
theorem grown_trans {a b c : World} {r : Option Nat} (h : a.grownBy b r) (k : b.grownBy c r) : a.grownBy c r :=
  ⟨k.os.trans h.os, k.tape.trans h.tape, k.output.trans h.output, Nat.le_trans h.size k.size, fun i hi hne => (k.block i (Nat.lt_of_lt_of_le hi h.size) hne).trans (h.block i hi hne)⟩
theorem grown_of_below {a b : World} {B : Nat} {r : Option Nat} (h : Below B a b) (hB : a.heap.size ≤ B) : a.grownBy b r := ⟨h.os, h.tape, h.output, h.size, fun i hi _ => h.block i (by omega)⟩
/-- What a write to blocks from 'a.heap.size' on leaves of a grown world. -/
theorem grown_below {a b c : World} {B : Nat} {r : Option Nat} (h : a.grownBy b r) (k : Below B b c) (hB : a.heap.size ≤ B) : a.grownBy c r :=
  ⟨k.os.trans h.os, k.tape.trans h.tape, k.output.trans h.output, Nat.le_trans h.size k.size, fun i hi hne => (k.block i (by omega)).trans (h.block i hi hne)⟩
theorem below_of_grown {a b : World} {rb B : Nat} (h : a.grownBy b (some rb)) (hB : B ≤ a.heap.size) (hr : B ≤ rb) : Below B a b :=
  ⟨h.os, h.tape, h.output, h.size, fun k hk => h.block k (by omega) (fun e => by injection e; omega)⟩
end Go.Proofs.Ytdacfeebidhgnaa
