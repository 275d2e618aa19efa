/- l2Find of the reference: for each node one that stands for its piece. -/
import Derived.Test.YtdacfeebidhgnaaPiecesOf
import Derived.Deep.AppendLies
import Derived.BigRegion
import Derived.Test.YtdacfeebidhgnaaEdgesAt
namespace Go.Proofs.Ytdacfeebidhgnaa
open Go.RowKit
set_option maxRecDepth 100000

theorem int_info : (Try.prog.info? 3).map (fun i => (i.zero, i.size, i.bytes)) = some (some (.int .i64 0), 1, 8) := by kernel_rfl

/-- The slice v, of the call's own, holds p at 0 .. n-1. -/
def OwnN (w : World) (base : Nat) (v : Value) (p : Nat → Nat) (n : Nat) : Prop := w.ownsRow base 3 1 v n (rowN p n)
theorem OwnN.cell {w : World} {base g n c : Nat} {p : Nat → Nat} (h : OwnN w base (.slice (some ⟨g, 0, none⟩) n c) p n) {k : Nat} (hk : k < n) : w.cell? ⟨g, k, none⟩ = some (.int .i64 (p k : Nat)) :=
  (World.ownsRow.cellAt h k (by omega)).trans (rowN_get p hk)
theorem OwnN.frozen {w : World} {base g n c : Nat} {p : Nat → Nat} (h : OwnN w base (.slice (some ⟨g, 0, none⟩) n c) p n) (k : Nat) : w.frozen? ⟨g, k, none⟩ = false := World.ownsRow.frozenAt h k
theorem OwnN.store {w : World} {base g n c : Nat} {p : Nat → Nat} (h : OwnN w base (.slice (some ⟨g, 0, none⟩) n c) p n) (k v : Nat) : OwnN (w.setCell ⟨g, k, none⟩ (.int .i64 (v : Nat))) base (.slice (some ⟨g, 0, none⟩) n c) (upd p k v) n := by
  have h1 := (World.ownsRow.stored h k (.int .i64 (v : Nat))).1
  unfold OwnN
  rw [← rowN_set]; exact h1
theorem OwnN.ge {w : World} {base g n c : Nat} {p : Nat → Nat} (h : OwnN w base (.slice (some ⟨g, 0, none⟩) n c) p n) : base ≤ g ∧ g < w.heap.size := World.ownsRow.lt h g rfl
theorem OwnN.below {w w' : World} {base B g n c : Nat} {p : Nat → Nat} (h : OwnN w base (.slice (some ⟨g, 0, none⟩) n c) p n) (hb : Below B w w') (hB : g < B) : OwnN w' base (.slice (some ⟨g, 0, none⟩) n c) p n := by
  rcases h.2 with ⟨hv, _⟩ | ⟨g', cap, cur, hv, hb', hh, h3, h4, h5, h6⟩
  · cases hv
  · have hg : g' = g := by injection hv with h1 _ _; injection h1 with h1; injection h1 with h1; exact h1.symm
    subst hg
    exact ⟨h.1, .inr ⟨g', cap, cur, hv, hb', (hb.block g' hB).trans hh, h3, h4, h5, h6⟩⟩
theorem OwnN.more {w : World} {base base' g n c : Nat} {p : Nat → Nat} (h : OwnN w base (.slice (some ⟨g, 0, none⟩) n c) p n) (hB : base' ≤ base) : OwnN w base' (.slice (some ⟨g, 0, none⟩) n c) p n := by
  rcases h.2 with ⟨hv, _⟩ | ⟨g', cap, cur, hv, hb', hh⟩
  · cases hv
  · exact ⟨h.1, .inr ⟨g', cap, cur, hv, by omega, hh⟩⟩
theorem rowN_succ (p : Nat → Nat) (n : Nat) : rowN p n ++ [.int .i64 (p n : Nat)] = rowN p (n + 1) := by simp [rowN, List.range_succ]
theorem Rep.stay {E : Nat → Nat × Nat} {T : Nat → Bool} {k n a b : Nat} {R : Nat → Nat} (h : Rep E T k n R) (hE : E k = (a, b)) (hab : R a = R b) : Rep E T (k + 1) n R := by
  refine ⟨h.idem, ?_, fun F hF => h.least F fun i hi => hF i (by omega), h.range⟩
  intro i hi ht
  by_cases hik : i = k
  · subst hik; rw [hE]; exact hab
  · exact h.joins i (by omega) ht
theorem tmod_of (m k : Nat) : ((m : Int) / 2 ^ k).tmod 2 = ((m / 2 ^ k % 2 : Nat) : Int) := by
  have : ((m : Int) / 2 ^ k) = ((m / 2 ^ k : Nat) : Int) := by rw [Int.natCast_ediv, Int.natCast_pow]; rfl
  rw [this, Int.tmod_eq_emod_of_nonneg (Int.natCast_nonneg _)]; rfl
theorem Rep.mm {E : Nat → Nat × Nat} {T : Nat → Bool} {k n a b : Nat} {R : Nat → Nat} (h : Rep E T k n R) (ha : 1 ≤ a ∧ a ≤ n) (hb : 1 ≤ b ∧ b ≤ n) (hE : E k = (a, b)) (ht : T k = true) :
    ∃ G, Rep E T (k + 1) n G ∧ ∀ z, G z = if R z = max (R a) (R b) then min (R a) (R b) else R z := by
  by_cases hlt : R a < R b
  · refine ⟨_, h.both ha (.inl hE) ht, fun z => ?_⟩
    rw [show max (R a) (R b) = R b by omega, show min (R a) (R b) = R a by omega]; rfl
  · refine ⟨_, h.both hb (.inr hE) ht, fun z => ?_⟩
    rw [show max (R a) (R b) = R a by omega, show min (R a) (R b) = R b by omega]; rfl
theorem bit_of (m k : Nat) : m.testBit k = decide (m / 2 ^ k % 2 = 1) := by rw [Nat.testBit_eq_decide_div_mod_eq]

set_option maxRecDepth 100000 in
set_option maxHeartbeats 4000000 in
theorem l2Find_any (n s : Int) (A : Option Addr) (cap : Nat) (es : List (Int × Int)) (w : World) (hes : EdgesIn w w.heap.size A es) (hn : netOkB n es = true) (h0 : 0 ≤ s) (hs : s < 512) :
    Calls Try.prog 122 #[.agg #[.int .i64 n, .slice A es.length cap], .int .i64 s] w fun e w' => Below w.heap.size w w' ∧ ∃ g c q R, e = .returned (.slice (some ⟨g, 0, none⟩) (n.toNat + 1) c) ∧ OwnN w' w.heap.size (.slice (some ⟨g, 0, none⟩) (n.toNat + 1) c) q (n.toNat + 1) ∧ (∀ x, 1 ≤ x → x ≤ n.toNat → q x = R x) ∧ Rep (endsOf es) (bits s) es.length n.toNat R := by
  have h9 := (netOkB_iff.1 hn).2.1
  have hn6 := (netOkB_iff.1 hn).1
  have HN := Lib.hid hn
  obtain ⟨m, rfl⟩ : ∃ m : Nat, s = m := ⟨s.toNat, by omega⟩
  obtain ⟨N, rfl⟩ : ∃ N : Nat, n = N := ⟨n.toNat, by omega⟩
  obtain ⟨i0, hi0, hz0, hz1, hz2⟩ := info_parts int_info
  clear hn
  have L0 := ArgNet.start (cap := cap) (n := N) 29 hes
  go_enter Try.func122, Try.ntmps122
  go_wp2_with fail
  go_loopw [5, 6] (fun v t wr => ∃ (k g c : Nat), k ≤ N + 1 ∧ t = .int .i64 (k : Nat) ∧ v = .slice (some ⟨g, 0, none⟩) k c ∧ OwnN wr (w.heap.size + 1) (.slice (some ⟨g, 0, none⟩) k c) (fun x => x) k ∧ ArgNet w wr N A cap es) (fun _ t _ => N + 1 - (intOf t).toNat)
  case atStart =>
    have L1 := L0.step ((Below.refl (w.heap.size + 1) _).alloc (by simp) (.cells #[] 3)) (by omega)
    exact ⟨0, _, 0, by omega, rfl, rfl, by simpa [OwnN, rowN] using World.ownsRow_made (base := w.heap.size + 1) (e := 3) (size := 1) (w.alloc (.cells #[.int .i64 N, .slice A es.length cap] 29)) #[] 0 (by simp) (by decide) rfl, L1⟩
  case round =>
    obtain ⟨k, g, c, hk, rfl, rfl, OW, L⟩ := hrel
    obtain ⟨_, _, c0, c1, s1⟩ := id L
    by_cases hlt : k < N + 1
    · have HOW := Lib.hid OW
      have hge := OW.ge
      clear OW
      go_wp2_with (at_builtin; (refine wpList_append_lies _ rfl (.tmp 18) (.tmp 20) 33 rfl (w.heap.size + 1) 3 i0 _ 1 8 Try.underlying33 hi0 hz0 hz1 hz2 rfl (by omega) (.slice (some ⟨g, 0, none⟩) k c) k (rowN (fun x => x) k) rfl (World.ownsRow.alloc HOW.out _) ⟨wr.heap.size, 0, none⟩ 1 1 [.int .i64 (k : Nat)] rfl rfl (World.news_of_block (cs := #[.int .i64 (k : Nat)]) (t := 3) (fr := (0, 0)) (heap_alloc_new _ _)) (by simp [Value.oneCell']) (by omega) (by simp [maxLen]; omega) (by omega) (by simp; omega) _ rfl ?_); intro gg cc w5 hown5 hgrow hat hlt5; have hbel : Below (w.heap.size + 1) wr w5 := ((Below.refl (w.heap.size + 1) wr).alloc (by omega) _).grown hgrow (by simp; omega) (fun j hj => (World.ownsRow.lt HOW.out j hj).1))
      have L5 := L.step hbel (by omega)
      have O5 : OwnN w5 (w.heap.size + 1) (.slice (some ⟨gg, 0, none⟩) (k + 1) cc) (fun x => x) (k + 1) := by
        unfold OwnN; rw [← rowN_succ]; exact hown5
      go_roundw
      case rel => exact ⟨k + 1, gg, cc, by omega, by go_num, rfl, O5, L5⟩
      case measure => simp [intOf]; omega
    · obtain rfl : k = N + 1 := by omega
      go_wp2_with fail
      clear c0 c1 s1 L0 hk hlt
      go_loopw [7] (fun t wr => ∃ (k : Nat) (R S : Nat → Nat), k ≤ es.length ∧ t = .int .i64 (k : Nat) ∧ OwnN wr (w.heap.size + 1) (.slice (some ⟨g, 0, none⟩) (N + 1) c) S (N + 1) ∧ ArgNet w wr N A cap es ∧ (∀ x, 1 ≤ x → x ≤ N → S x = R x) ∧ Rep (endsOf es) (bits m) k N R) (fun t _ => es.length - (intOf t).toNat)
      case atStart => exact ⟨0, _, _, by omega, rfl, OW, L, fun _ _ _ => rfl, Rep.start _ _ _ (fun _ => rfl)⟩
      case round =>
        clear OW L
        obtain ⟨k, R, S, hk, rfl, OW, L, hS, hR⟩ := hrel
        obtain ⟨_, _, c0, c1, s1⟩ := id L
        by_cases hlt : k < es.length
        · obtain ⟨a, b, he, hE, ha1, hb1, ha7, hb7, haN, hbN⟩ := fits_ends HN.out hlt
          obtain ⟨bl, off, rfl, hbb, g1, g2⟩ := L.at_ k _ (List.getElem?_eq_getElem hlt)
          rw [he] at g1 g2
          have sa := OW.cell (show a < N + 1 by omega)
          have sb := OW.cell (show b < N + 1 by omega)
          rw [hS a (by omega) (by omega)] at sa
          rw [hS b (by omega) (by omega)] at sb
          have ra := hR.range a (by omega) (by omega)
          have rb := hR.range b (by omega) (by omega)
          cases ht : bits m k with
          | false =>
            have hR' := hR.skip ht
            have hz : ((m : Int) / 2 ^ k).tmod 2 = 0 := by
              have := bit_of m k
              rw [tmod_of]; simp [bits] at ht; rw [ht] at this; simp at this; omega
            clear he hE ht hR
            generalize R a = x at *
            generalize R b = y at *
            go_wp2_with fail
            go_roundw
            case rel => exact ⟨k + 1, R, S, by omega, by go_num, OW, L, hS, hR'⟩
            case measure => simp [intOf]; omega
          | true =>
            have hz : ((m : Int) / 2 ^ k).tmod 2 = 1 := by
              have := bit_of m k
              rw [tmod_of]; simp [bits] at ht; rw [ht] at this; simp at this; omega
            by_cases hxy : R a = R b
            · have hR' := hR.stay hE hxy
              rw [← hxy] at sb
              clear he hE ht hR hxy
              generalize R a = x at *
              go_wp2_with fail
              go_roundw
              case rel => exact ⟨k + 1, R, S, by omega, by go_num, OW, L, hS, hR'⟩
              case measure => simp [intOf]; omega
            · obtain ⟨G, hR', hG⟩ := hR.mm ⟨ha1, haN⟩ ⟨hb1, hbN⟩ hE ht
              have hxy' : ¬ ((R a : Int) = R b) := by omega
              clear he hE ht hR hxy
              generalize R a = x at *
              generalize R b = y at *
              obtain ⟨M, hM⟩ : ∃ M, max x y = M := ⟨_, rfl⟩
              obtain ⟨I, hI⟩ : ∃ I, min x y = I := ⟨_, rfl⟩
              rw [hM, hI] at hG
              have hmx : (if x < y then (y : Int) else x) = M := by rw [← hM]; split <;> omega
              have hmn : (if y < x then (y : Int) else x) = I := by rw [← hI]; split <;> omega
              clear hM hI
              go_wp2_with fail
              go_loopw [10] (fun t wr => ∃ (j : Nat) (S' : Nat → Nat), 1 ≤ j ∧ j ≤ N + 1 ∧ t = .int .i64 (j : Nat) ∧ OwnN wr (w.heap.size + 1) (.slice (some ⟨g, 0, none⟩) (N + 1) c) S' (N + 1) ∧ ArgNet w wr N (some ⟨bl, off, none⟩) cap es ∧ (∀ z, 1 ≤ z → z < j → S' z = G z) ∧ (∀ z, j ≤ z → z ≤ N → S' z = R z)) (fun t _ => N + 1 - (intOf t).toNat)
              case atStart => exact ⟨1, S, by omega, by omega, rfl, OW, L, fun z h1 h2 => by omega, hS⟩
              case round =>
                clear OW L hS c0 c1 s1 sa sb S
                obtain ⟨j, S, hj1, hj, rfl, OW, L, hS, hS2⟩ := hrel
                obtain ⟨_, _, c0, c1, s1⟩ := id L
                by_cases hjN : j ≤ N
                · have cj := OW.cell (show j < N + 1 by omega)
                  have fj := OW.frozen j
                  have hge := OW.ge
                  rw [hS2 j (by omega) hjN] at cj
                  have hGj := Lib.hid (hG j)
                  have O2 := OW.store j I
                  have L2 := L.step ((Below.refl (w.heap.size + 1) wr).setCell (p := ⟨g, j, none⟩) (by simp; omega) (.int .i64 (I : Nat))) (by omega)
                  have hS2' : ∀ z, j + 1 ≤ z → z ≤ N → upd S j I z = R z := fun z h1 h2 => by
                    unfold upd; rw [if_neg (by omega)]; exact hS2 z (by omega) h2
                  by_cases hv : R j = M
                  · have hS' : ∀ z, 1 ≤ z → z < j + 1 → upd S j I z = G z := by
                      intro z h1 h2
                      unfold upd; split
                      · rename_i e; subst e; rw [hGj.out, if_pos hv]
                      · exact hS z h1 (by omega)
                    rw [hv] at cj
                    clear hS hS2 hv
                    go_wp2_with fail
                    go_roundw
                    case rel => exact ⟨j + 1, upd S j I, by omega, by omega, by go_num, O2, L2, hS', hS2'⟩
                    case measure => simp [intOf]; omega
                  · have hS' : ∀ z, 1 ≤ z → z < j + 1 → S z = G z := by
                      intro z h1 h2
                      by_cases e : z = j
                      · subst e; rw [hGj.out, if_neg hv]; exact hS2 z (by omega) hjN
                      · exact hS z h1 (by omega)
                    have hv' : ¬ ((R j : Int) = M) := by omega
                    clear hS hv
                    generalize R j = v at *
                    go_wp2_with fail
                    go_roundw
                    case rel => exact ⟨j + 1, S, by omega, by omega, by go_num, OW, L, hS', fun z h1 h2 => hS2 z (by omega) h2⟩
                    case measure => simp [intOf]; omega
                · obtain rfl : j = N + 1 := by omega
                  go_wp2_with fail
                  go_roundw
                  case rel => exact ⟨_, _, _, _, _, _, _, _, _, _, _, _, _, _, _, _, _, _, _, _, _, _, _, _, _, _, _, _, _, _, _, _, _, _, _, _, _, _, _, _, _, _, _, _, _, _, _, _, _, _, _, _, _, _, _, _, _, _, _, ⟨k + 1, G, S, by omega, by go_num, OW, L, fun x h1 h2 => hS x h1 (by omega), hR'⟩, rfl⟩
                  case measure => simp [intOf]; omega
        · obtain rfl : k = es.length := by omega
          go_wp2_with fail
          go_returns
          exact ⟨L.below, g, c, S, R, rfl, OW.more (by omega), hS, hR⟩
end Go.Proofs.Ytdacfeebidhgnaa

/- Rows of integers: what a slice reads as, and a row of the call's own. -/
namespace Go.Proofs.Ytdacfeebidhgnaa
open Go.RowKit
set_option maxRecDepth 100000

def ints (xs : List Int) : List Value := xs.map fun x => .int .i64 x
theorem ints_length (xs : List Int) : (ints xs).length = xs.length := by simp [ints]
theorem ints_get {xs : List Int} {k : Nat} {x : Int} (h : xs[k]? = some x) : (ints xs)[k]? = some (.int .i64 x) := by simp [ints, h]
theorem ints_at {xs : List Int} {k : Nat} (h : k < xs.length) : xs[k]? = some (xs.getD k 0) := by simp [List.getD, h]
theorem ints_set (xs : List Int) (k : Nat) (x : Int) : ints (xs.set k x) = (ints xs).set k (.int .i64 x) := by simp [ints, List.map_set]
theorem ints_append (xs ys : List Int) : ints (xs ++ ys) = ints xs ++ ints ys := by simp [ints]
theorem madeCells_ints (n : Nat) : (madeCells #[.int .i64 0] (n * 1)).toList = ints (List.replicate n 0) := by
  apply List.ext_getElem?
  intro j
  by_cases hj : j < n
  · simp [madeCells, ints, hj, Nat.mod_one]
  · simp [madeCells, ints, hj]

/-- The slice at A reads as the list of integers, all of it in blocks before B. -/
def IntsIn (w : World) (B : Nat) (A : Option Addr) (xs : List Int) : Prop :=
  ∀ k x, xs[k]? = some x → ∃ b off, A = some ⟨b, off, none⟩ ∧ b < B ∧ w.cell? ⟨b, off + k, none⟩ = some (.int .i64 x)
theorem IntsIn.nil {w : World} {B : Nat} {A : Option Addr} : IntsIn w B A [] := fun k e h => by simp at h
theorem IntsIn.below {w w' : World} {B B' : Nat} {A : Option Addr} {xs : List Int} (h : IntsIn w B A xs) (hb : Below B' w w') (hB : B ≤ B') : IntsIn w' B A xs :=
  fun k x hk => by
    obtain ⟨b, off, rfl, hlt, c0⟩ := h k x hk
    exact ⟨b, off, rfl, hlt, (hb.cell (p := ⟨b, off + k, none⟩) (by simp; omega)).trans c0⟩
theorem IntsIn.more {w : World} {B B' : Nat} {A : Option Addr} {xs : List Int} (h : IntsIn w B A xs) (hB : B ≤ B') : IntsIn w B' A xs :=
  fun k x hk => by
    obtain ⟨b, off, rfl, hlt, c0⟩ := h k x hk
    exact ⟨b, off, rfl, by omega, c0⟩
theorem IntsIn.alloc {w : World} {B : Nat} {A : Option Addr} {xs : List Int} (h : IntsIn w B A xs) (hB : B ≤ w.heap.size) (o : Obj) : IntsIn (w.alloc o) B A xs :=
  h.below ((Below.refl _ _).alloc hB o) (Nat.le_refl _)

/-- The slice v, of the call's own from block 'base' on, holds the list of integers. -/
def OwnI (w : World) (base : Nat) (v : Value) (xs : List Int) : Prop := w.ownsRow base 3 1 v xs.length (ints xs)
theorem OwnI.nil (w : World) (base : Nat) : OwnI w base (.slice none 0 0) [] := World.ownsRow_nil _ _ _ _
theorem OwnI.form {w : World} {base : Nat} {v : Value} {xs : List Int} (h : OwnI w base v xs) :
    (v = .slice none 0 0 ∧ xs = []) ∨ ∃ g cap, v = .slice (some ⟨g, 0, none⟩) xs.length cap ∧ base ≤ g ∧ g < w.heap.size := by
  rcases h.2 with ⟨rfl, h0⟩ | ⟨g, cap, cur, rfl, hb, hh, _⟩
  · exact .inl ⟨rfl, List.eq_nil_of_length_eq_zero h0⟩
  · refine .inr ⟨g, cap, rfl, hb, ?_⟩
    rcases Nat.lt_or_ge g w.heap.size with hlt | hge
    · exact hlt
    · rw [Array.getElem?_eq_none hge] at hh; cases hh
theorem OwnI.ints {w : World} {base n c : Nat} {A : Option Addr} {xs : List Int} (h : OwnI w base (.slice A n c) xs) : IntsIn w w.heap.size A xs := by
  intro k x hk
  have hlt : k < xs.length := (List.getElem?_eq_some_iff.1 hk).1
  rcases h.form with ⟨_, rfl⟩ | ⟨g, cap, hv, _, hg⟩
  · simp at hk
  · injection hv with hA hn hc
    subst hA hn hc
    exact ⟨g, 0, rfl, hg, by rw [Nat.zero_add, World.ownsRow.cellAt h k (by omega)]; exact ints_get hk⟩
theorem OwnI.len {w : World} {base n c : Nat} {A : Option Addr} {xs : List Int} (h : OwnI w base (.slice A n c) xs) : n = xs.length := by
  rcases h.form with ⟨hv, rfl⟩ | ⟨g, cap, hv, _⟩
  · injection hv with _ h2 _
  · injection hv with _ h2 _
theorem OwnI.cap {w : World} {base n c : Nat} {A : Option Addr} {xs : List Int} (h : OwnI w base (.slice A n c) xs) : xs.length ≤ c := by
  rcases h.2 with ⟨hv, h0⟩ | ⟨g, cap, cur, hv, hb', hh, h3, h4, h5, h6⟩
  · omega
  · injection hv with h1 h2 h7; subst h7; exact h3
theorem OwnI.below {w w' : World} {base B : Nat} {v : Value} {xs : List Int} (h : OwnI w base v xs) (hb : Below B w w') (hB : ∀ k, v.ownBlock = some k → k < B) : OwnI w' base v xs := by
  rcases h.2 with ⟨rfl, h0⟩ | ⟨g, cap, cur, rfl, hb', hh, h3, h4, h5, h6⟩
  · exact ⟨h.1, .inl ⟨rfl, h0⟩⟩
  · exact ⟨h.1, .inr ⟨g, cap, cur, rfl, hb', (hb.block g (hB g rfl)).trans hh, h3, h4, h5, h6⟩⟩
theorem OwnI.far {w : World} {base : Nat} {v : Value} {xs : List Int} (h : OwnI w base v xs) {p : Addr} (hp : ∀ k, v.ownBlock = some k → k ≠ p.block) (u : Value) : OwnI (w.setCell p u) base v xs := by
  rcases h.2 with ⟨rfl, h0⟩ | ⟨g, cap, cur, rfl, hb', hh, h3, h4, h5, h6⟩
  · exact ⟨h.1, .inl ⟨rfl, h0⟩⟩
  · exact ⟨h.1, .inr ⟨g, cap, cur, rfl, hb', (Below.heap_setCell _ _ _ _ (hp g rfl)).trans hh, h3, h4, h5, h6⟩⟩
theorem OwnI.lt {w : World} {base : Nat} {v : Value} {xs : List Int} (h : OwnI w base v xs) : ∀ k, v.ownBlock = some k → k < w.heap.size :=
  fun k hk => (World.ownsRow.lt h k hk).2
theorem OwnI.ge {w : World} {base : Nat} {v : Value} {xs : List Int} (h : OwnI w base v xs) : ∀ k, v.ownBlock = some k → base ≤ k :=
  fun k hk => (World.ownsRow.lt h k hk).1
theorem OwnI.more {w : World} {base base' : Nat} {v : Value} {xs : List Int} (h : OwnI w base v xs) (hB : base' ≤ base) : OwnI w base' v xs := by
  rcases h.2 with ⟨rfl, h0⟩ | ⟨g, cap, cur, rfl, hb', hh⟩
  · exact ⟨h.1, .inl ⟨rfl, h0⟩⟩
  · exact ⟨h.1, .inr ⟨g, cap, cur, rfl, by omega, hh⟩⟩
theorem OwnI.drew {w : World} {base : Nat} {v : Value} {xs : List Int} (h : OwnI w base v xs) : OwnI w.drew base v xs := h.below ((Below.refl w.heap.size w).drew) h.lt
theorem OwnI.drewN {w : World} {base : Nat} {v : Value} {xs : List Int} (h : OwnI w base v xs) (n : Nat) : OwnI (w.drewN n) base v xs := h.below (belowN (Below.refl w.heap.size w) n) h.lt
theorem OwnI.slot {w : World} {base g n c : Nat} {xs : List Int} (h : OwnI w base (.slice (some ⟨g, 0, none⟩) n c) xs) {k : Nat} (hk : k < n) :
    w.cell? ⟨g, k, none⟩ = some (.int .i64 (xs.getD k 0)) ∧ w.frozen? ⟨g, k, none⟩ = false := by
  obtain rfl := h.len
  refine ⟨?_, World.ownsRow.frozenAt h k⟩
  rw [World.ownsRow.cellAt h k (by omega)]
  refine ints_get ?_
  simp [List.getD, hk]
theorem OwnI.store {w : World} {base g n c : Nat} {xs : List Int} (h : OwnI w base (.slice (some ⟨g, 0, none⟩) n c) xs) (k : Nat) (x : Int) :
    OwnI (w.setCell ⟨g, k, none⟩ (.int .i64 x)) base (.slice (some ⟨g, 0, none⟩) n c) (xs.set k x) := by
  obtain rfl := h.len
  have h1 := (World.ownsRow.stored h k (.int .i64 x)).1
  unfold OwnI
  rw [ints_set, List.length_set]
  exact h1
theorem OwnI.box (w : World) {base : Nat} (xs : List Int) (hb : base ≤ w.heap.size) (hm : xs.length ≤ maxLen) :
    OwnI (w.alloc (.cells (Go.Proofs.Ytdacfeebidhgnaa.ints xs).toArray 3)) base (.slice (some ⟨w.heap.size, 0, none⟩) xs.length xs.length) xs :=
  ⟨by simp [ints_length], .inr ⟨w.heap.size, xs.length, (Go.Proofs.Ytdacfeebidhgnaa.ints xs).toArray, rfl, hb, heap_alloc_new w _, Nat.le_refl _, hm, by simp [ints_length], by simp [List.take_of_length_le, ints_length]⟩⟩

/-- The row of a function's values. -/
def rowL (p : Nat → Int) (n : Nat) : List Int := (List.range n).map p
def updI (p : Nat → Int) (k : Nat) (v : Int) (x : Nat) : Int := if x = k then v else p x
theorem rowL_length (p : Nat → Int) (n : Nat) : (rowL p n).length = n := by simp [rowL]
theorem rowL_get (p : Nat → Int) {n k : Nat} (h : k < n) : (rowL p n)[k]? = some (p k) := by simp [rowL, h]
theorem rowL_getD (p : Nat → Int) {n k : Nat} (h : k < n) : (rowL p n).getD k 0 = p k := by simp [List.getD, rowL_get p h]
theorem rowL_congr {p q : Nat → Int} {n : Nat} (h : ∀ x, x < n → p x = q x) : rowL p n = rowL q n := by
  unfold rowL
  apply List.map_congr_left
  intro x hx
  exact h x (by simpa using hx)
theorem rowL_set (p : Nat → Int) (n k : Nat) (v : Int) : (rowL p n).set k v = rowL (updI p k v) n := by
  apply List.ext_getElem?
  intro j
  by_cases hj : j < n
  · by_cases hk : k = j
    · subst hk; simp [rowL, updI, hj]
    · rw [List.getElem?_set_ne hk, rowL_get _ hj, rowL_get _ hj]; simp [updI]; intro e; exact absurd e.symm hk
  · rw [List.getElem?_eq_none (by simp [rowL]; omega), List.getElem?_eq_none (by simp [rowL]; omega)]
theorem rowL_zero (n : Nat) : List.replicate n 0 = rowL (fun _ => 0) n := by
  apply List.ext_getElem?
  intro j
  by_cases hj : j < n <;> simp [rowL, hj]
theorem rowL_of (xs : List Int) : rowL (fun k => xs.getD k 0) xs.length = xs := by
  apply List.ext_getElem?
  intro j
  by_cases hj : j < xs.length
  · rw [rowL_get _ hj]; simp [List.getD, hj]
  · rw [List.getElem?_eq_none (by simp [rowL]; omega), List.getElem?_eq_none (by omega)]

/-- A call gives back a new row, or nil. -/
def GotInts (w : World) (xs : List Int) (e : Ending) (w' : World) : Prop :=
  ∃ A c, e = .returned (.slice A xs.length c) ∧ OwnI w' w.heap.size (.slice A xs.length c) xs ∧ Below w.heap.size w w'
end Go.Proofs.Ytdacfeebidhgnaa

/- RRows of rows of integers, all of the call's own. -/
namespace Go.Proofs.Ytdacfeebidhgnaa
open Go.RowKit
set_option maxRecDepth 100000

theorem rows_info : (Try.prog.info? 33).map (fun i => (i.zero, i.size, i.bytes)) = some (some (.slice none 0 0), 1, 24) := by kernel_rfl

/-- A row of k rows of m numbers each, all of the call's own, from block 'base' on. -/
def RRows (u : World) (base : Nat) (OA : Option Addr) (k oc m : Nat) (F : Nat → List Int) : Prop :=
  ∃ vs : List Value, vs.length = k ∧ u.ownsRow base 33 1 (.slice OA k oc) k vs ∧
    ∀ j, j < k → ∃ b c, vs[j]? = some (.slice (some ⟨b, 0, none⟩) m c) ∧ base ≤ b ∧ (Value.slice OA k oc).ownBlock ≠ some b ∧ b < u.heap.size ∧ IntsIn u u.heap.size (some ⟨b, 0, none⟩) (F j)
theorem RRows.nil (u : World) (base m : Nat) (F : Nat → List Int) : RRows u base none 0 0 m F := ⟨[], rfl, World.ownsRow_nil _ _ _ _, fun j hj => by omega⟩
theorem RRows.block {u : World} {base : Nat} {OA : Option Addr} {k oc m : Nat} {F : Nat → List Int} (h : RRows u base OA k oc m F) : ∀ j, (Value.slice OA k oc).ownBlock = some j → j < u.heap.size := by
  obtain ⟨vs, hl, ho, hr⟩ := h
  exact fun j hj => (World.ownsRow.lt ho j hj).2
theorem ownsRow_next {u u' : World} {base : Nat} {T : TypeId} {v : Value} {k : Nat} {vs : List Value} (h : u.ownsRow base T 1 v k vs) (hb : Below u.heap.size u u') : u'.ownsRow base T 1 v k vs := by
  have hlt := fun j hj => (World.ownsRow.lt h j hj).2
  rcases h.2 with ⟨rfl, h0⟩ | ⟨g, cap, cur, rfl, hb', hh, h3⟩
  · exact ⟨h.1, .inl ⟨rfl, h0⟩⟩
  · exact ⟨h.1, .inr ⟨g, cap, cur, rfl, hb', (hb.block g (hlt g rfl)).trans hh, h3⟩⟩
theorem RRows.next {u u' : World} {base : Nat} {OA : Option Addr} {k oc m : Nat} {F : Nat → List Int} (h : RRows u base OA k oc m F) (hb : Below u.heap.size u u') : RRows u' base OA k oc m F := by
  obtain ⟨vs, hl, ho, hr⟩ := h
  refine ⟨vs, hl, ownsRow_next ho hb, fun j hj => ?_⟩
  obtain ⟨b, c, h1, h2, h3, h4, h5⟩ := hr j hj
  exact ⟨b, c, h1, h2, h3, Nat.lt_of_lt_of_le h4 hb.size, (h5.below hb (Nat.le_refl _)).more hb.size⟩
theorem RRows.drew {u : World} {base : Nat} {OA : Option Addr} {k oc m : Nat} {F : Nat → List Int} (h : RRows u base OA k oc m F) : RRows u.drew base OA k oc m F := h.next ((Below.refl _ _).drew)
/-- One row more. -/
theorem rows_grow {w4 w5 : World} {base : Nat} {OA : Option Addr} {k oc m g4 k4 gg cc : Nat} {F : Nat → List Int} {vs : List Value} {T : TypeId}
    (ho : w4.ownsRow base 33 1 (.slice OA k oc) k vs) (hl : vs.length = k)
    (hr : ∀ j, j < k → ∃ b c, vs[j]? = some (.slice (some ⟨b, 0, none⟩) m c) ∧ base ≤ b ∧ (Value.slice OA k oc).ownBlock ≠ some b ∧ b < w4.heap.size ∧ IntsIn w4 w4.heap.size (some ⟨b, 0, none⟩) (F j))
    (hlo : ∀ j, (Value.slice OA k oc).ownBlock = some j → j < g4) (hhi : g4 < w4.heap.size) (hbase : base ≤ g4) (hi : IntsIn w4 w4.heap.size (some ⟨g4, 0, none⟩) (F k))
    (hown : w5.ownsRow base 33 1 (.slice (some ⟨gg, 0, none⟩) (k + 1) cc) (k + 1) (vs ++ [.slice (some ⟨g4, 0, none⟩) m k4]))
    (hg : (w4.alloc (.cells #[.slice (some ⟨g4, 0, none⟩) m k4] T)).grownBy w5 (Value.slice OA k oc).ownBlock)
    (hat : (Value.slice OA k oc).ownBlock = some gg ∨ gg = (w4.alloc (.cells #[.slice (some ⟨g4, 0, none⟩) m k4] T)).heap.size) :
    RRows w5 base (some ⟨gg, 0, none⟩) (k + 1) cc m F := by
  have hs5 : w4.heap.size + 1 ≤ w5.heap.size := by have := hg.size; simpa using this
  have keep : ∀ b, b < w4.heap.size → (Value.slice OA k oc).ownBlock ≠ some b → w5.heap[b]? = w4.heap[b]? := fun b hb hne =>
    (hg.block b (by simp; omega) (fun e => hne e.symm)).trans (((Below.refl w4.heap.size w4).alloc (Nat.le_refl _) _).block b hb)
  have ggne : ∀ b, b < w4.heap.size → (Value.slice OA k oc).ownBlock ≠ some b → gg ≠ b := fun b hb hne e => by
    subst e
    rcases hat with h | h
    · exact hne h
    · simp at h; omega
  have ints : ∀ b xs, b < w4.heap.size → (Value.slice OA k oc).ownBlock ≠ some b → IntsIn w4 w4.heap.size (some ⟨b, 0, none⟩) xs → IntsIn w5 w5.heap.size (some ⟨b, 0, none⟩) xs := fun b xs hb hne h i x hx => by
    obtain ⟨b', off, he, hlt, hc⟩ := h i x hx
    injection he with he; injection he with e1 e2; subst e1 e2
    exact ⟨b, 0, rfl, by omega, (World.cell?_of_block (a := ⟨b, 0 + i, none⟩) (keep b hb hne)).trans hc⟩
  refine ⟨_, by simp [hl], hown, fun j hj => ?_⟩
  have hown' : (Value.slice (some ⟨gg, 0, none⟩) (k + 1) cc).ownBlock = some gg := rfl
  by_cases hjk : j < k
  · obtain ⟨b, c, h1, h2, h3, h4, h5⟩ := hr j hjk
    exact ⟨b, c, by rw [List.getElem?_append_left (by omega)]; exact h1, h2, by rw [hown']; intro e; injection e with e; exact ggne b h4 h3 e, by omega, ints b _ h4 h3 h5⟩
  · obtain rfl : j = k := by omega
    have hne : (Value.slice OA j oc).ownBlock ≠ some g4 := fun e => by have := hlo g4 e; omega
    exact ⟨g4, k4, by rw [← hl]; simp, hbase, by rw [hown']; intro e; injection e with e; exact ggne g4 hhi hne e, by omega, ints g4 _ hhi hne hi⟩
theorem rows_far {u : World} {base : Nat} {OA : Option Addr} {k oc m : Nat} {F : Nat → List Int} (h : RRows u base OA k oc m F) {p : Addr} (hp : p.block < base) (v : Value) : RRows (u.setCell p v) base OA k oc m F := by
  obtain ⟨vs, hl, ho, hr⟩ := h
  have keep : ∀ b, base ≤ b → (u.setCell p v).heap[b]? = u.heap[b]? := fun b hb => Below.heap_setCell _ _ _ _ (by omega)
  have hsz : (u.setCell p v).heap.size = u.heap.size := by simp [World.setCell]
  refine ⟨vs, hl, ?_, fun j hj => ?_⟩
  · rcases ho.2 with ⟨h0, h1⟩ | ⟨g, cap, cur, h0, hb', hh, h3⟩
    · exact ⟨ho.1, .inl ⟨h0, h1⟩⟩
    · exact ⟨ho.1, .inr ⟨g, cap, cur, h0, hb', (keep g hb').trans hh, h3⟩⟩
  · obtain ⟨b, c, h1, h2, h3, h4, h5⟩ := hr j hj
    refine ⟨b, c, h1, h2, h3, by rw [hsz]; exact h4, fun i x hx => ?_⟩
    obtain ⟨b', off, he, hlt, hc⟩ := h5 i x hx
    injection he with he; injection he with e1 e2; subst e1 e2
    exact ⟨b, 0, rfl, by rw [hsz]; exact hlt, (World.cell?_of_block (a := ⟨b, 0 + i, none⟩) (keep b h2)).trans hc⟩

/-- What can be read of rows of rows: all in blocks before B. -/
def RRowsRd (u : World) (B : Nat) (OA : Option Addr) (k m : Nat) (F : Nat → List Int) : Prop :=
  ∀ j, j < k → ∃ ob b c, OA = some ⟨ob, 0, none⟩ ∧ ob < B ∧ u.cell? ⟨ob, j, none⟩ = some (.slice (some ⟨b, 0, none⟩) m c) ∧ IntsIn u B (some ⟨b, 0, none⟩) (F j)
theorem RRows.rd {u : World} {base : Nat} {OA : Option Addr} {k oc m : Nat} {F : Nat → List Int} (h : RRows u base OA k oc m F) : RRowsRd u u.heap.size OA k m F := by
  intro j hj
  have hblk := h.block
  obtain ⟨vs, hl, ho, hr⟩ := h
  obtain ⟨b, c, h1, h2, h3, h4, h5⟩ := hr j hj
  rcases ho.form (by omega) with ⟨g, cap, hv, hb, hg⟩
  injection hv with hA hn hcc
  subst hA hcc
  exact ⟨g, b, c, rfl, hg, by rw [World.ownsRow.cellAt ho j (by omega)]; exact h1, h5⟩
theorem RRowsRd.below {u u' : World} {B B' : Nat} {OA : Option Addr} {k m : Nat} {F : Nat → List Int} (h : RRowsRd u B OA k m F) (hb : Below B' u u') (hB : B ≤ B') : RRowsRd u' B OA k m F := by
  intro j hj
  obtain ⟨ob, b, c, h1, h2, h3, h4⟩ := h j hj
  exact ⟨ob, b, c, h1, h2, (hb.cell (p := ⟨ob, j, none⟩) (by simp; omega)).trans h3, h4.below hb hB⟩
end Go.Proofs.Ytdacfeebidhgnaa

/- toIntS, eqIntS, sameInts, markIntS and heldIntS of the laws. -/
namespace Go.Proofs.Ytdacfeebidhgnaa
open Go.RowKit
set_option maxRecDepth 100000

theorem eqIntS_self (A B : Option Addr) (c d m : Nat) (xs : List Int) (w : World) (hxs : IntsIn w w.heap.size A xs) (hys : IntsIn w w.heap.size B xs) (hm : xs.length = m) (hl : m ≤ 1048576) :
    Calls Try.prog 22 #[.slice A m c, .slice B m d] w fun e w' => e = .returned (.bool true) ∧ Below w.heap.size w w' := by
  have HM := Lib.hid hm
  clear hm
  go_enter Try.func22, Try.ntmps22
  go_wp2_with fail
  go_loopw [5] (fun i wr => ∃ k : Nat, k ≤ m ∧ i = .int .i64 k ∧ Below w.heap.size w wr) (fun i _ => m - (intOf i).toNat)
  case atStart => exact ⟨0, by omega, rfl, Below.refl _ _⟩
  case round =>
    obtain ⟨k, hk, rfl, hb⟩ := hrel
    by_cases hlt : k < m
    · have k1 : k < xs.length := by have := HM.out; omega
      obtain ⟨b, off, rfl, hbb, g1⟩ := (hxs.below hb (by omega)) k _ (List.getElem?_eq_getElem k1)
      obtain ⟨b', off', rfl, hbb', g1'⟩ := (hys.below hb (by omega)) k _ (List.getElem?_eq_getElem k1)
      clear hxs hys
      generalize xs[k] = x at *
      go_wp2_with fail
      go_quiet (fail)
      go_wp2_with fail
      go_roundw
      case rel => exact ⟨k + 1, by omega, by go_num, belowN hb _⟩
      case measure => simp [intOf]; omega
    · obtain rfl : k = m := by omega
      go_wp2_with fail
      go_returns
      exact ⟨rfl, hb⟩

theorem sameInts_self (A B : Option Addr) (c d m : Nat) (xs : List Int) (w : World) (hxs : IntsIn w w.heap.size A xs) (hys : IntsIn w w.heap.size B xs) (hm : xs.length = m) (hl : m ≤ 1048576) :
    Calls Try.prog 51 #[.slice A m c, .slice B m d] w fun e w' => e = .returned (.bool true) ∧ Below w.heap.size w w' := by
  have HM := Lib.hid hm
  clear hm
  go_enter Try.func51, Try.ntmps51
  go_wp2_with fail
  go_loopw [5] (fun i wr => ∃ k : Nat, k ≤ m ∧ i = .int .i64 k ∧ Below w.heap.size w wr) (fun i _ => m - (intOf i).toNat)
  case atStart => exact ⟨0, by omega, rfl, Below.refl _ _⟩
  case round =>
    obtain ⟨k, hk, rfl, hb⟩ := hrel
    by_cases hlt : k < m
    · have k1 : k < xs.length := by have := HM.out; omega
      obtain ⟨b, off, rfl, hbb, g1⟩ := (hxs.below hb (by omega)) k _ (List.getElem?_eq_getElem k1)
      obtain ⟨b', off', rfl, hbb', g1'⟩ := (hys.below hb (by omega)) k _ (List.getElem?_eq_getElem k1)
      clear hxs hys
      generalize xs[k] = x at *
      go_wp2_with fail
      go_quiet (fail)
      go_wp2_with fail
      go_roundw
      case rel => exact ⟨k + 1, by omega, by go_num, belowN hb _⟩
      case measure => simp [intOf]; omega
    · obtain rfl : k = m := by omega
      go_wp2_with fail
      go_returns
      exact ⟨rfl, hb⟩

def marksI (k : Int) (m : Nat) : List Int := rowL (fun i => k + (i : Int)) m
theorem marksI_length (k : Int) (m : Nat) : (marksI k m).length = m := rowL_length _ _
theorem marksI_get (k : Int) (m i : Nat) (h : i < m) : (marksI k m)[i]? = some (k + (i : Int)) := rowL_get _ h
def MarkedI (w : World) (base : Nat) (v : Value) (k : Int) (m : Nat) (e : Ending) (w' : World) : Prop :=
  e = .returned (.int .i64 (k + (m : Int))) ∧ OwnI w' base v (marksI k m) ∧ w.grownBy w' v.ownBlock

theorem markIntS_any (A : Option Addr) (c base m : Nat) (xs : List Int) (k : Int) (w : World) (own : OwnI w base (.slice A m c) xs) (hl : m ≤ 1048576) (k0 : 0 ≤ k) (k1 : k ≤ 4194304) :
    Calls Try.prog 24 #[.slice A m c, .int .i64 k] w (MarkedI w base (.slice A m c) k m) := by
  go_enter Try.func24, Try.ntmps24
  go_wp2_with fail
  go_loopw [1, 5] (fun kk i wr => ∃ (j : Nat) (cur : List Int), j ≤ m ∧ i = .int .i64 j ∧ kk = .int .i64 (k + (j : Int)) ∧ Hid (cur.take j = (marksI k m).take j) ∧ OwnI wr base (.slice A m c) cur ∧ w.grownBy wr (Value.slice A m c).ownBlock) (fun _ i _ => m - (intOf i).toNat)
  case atStart => exact ⟨0, xs, by omega, rfl, by simp, by simp [Hid], own, World.grownBy.refl _ _⟩
  case round =>
    clear own
    obtain ⟨j, cur, hj, rfl, rfl, hall, own, hg⟩ := hrel
    by_cases hlt : j < m
    · rcases own.form with ⟨hv, _⟩ | ⟨g, cc, hv, _, _⟩
      · injection hv with _ h2 _; omega
      · injection hv with hA h2 h3
        subst hA h3
        have H2 := Lib.hid h2
        clear h2
        obtain ⟨c1, f1⟩ := own.slot hlt
        have hset : Hid ((cur.set j (k + (j : Int))).take (j + 1) = (marksI k m).take (j + 1)) := by
          have h1 : j < cur.length := by have := H2.out; omega
          have h2 : j < (marksI k m).length := by rw [marksI_length]; exact hlt
          have h3 : (marksI k m)[j] = k + (j : Int) := by
            have := marksI_get k m j hlt; rw [List.getElem?_eq_getElem h2] at this; injection this
          have := take_set_succ h1 h2 hall.out
          rw [h3] at this
          exact this
        have OW := Lib.hid (own.store j (k + (j : Int)))
        clear own
        go_wp2_with fail
        go_roundw
        case rel => exact ⟨j + 1, _, by omega, by go_num, by go_num, hset, OW.out, ⟨hg.os, hg.tape, hg.output, by simp [World.setCell]; exact hg.size, fun i hi hne => by
          have hne' : i ≠ g := fun e => hne (by simp [Value.ownBlock, e])
          exact (Below.heap_setCell _ _ _ _ (by simpa using hne')).trans (hg.block i hi hne)⟩⟩
        case measure => simp [intOf]; omega
    · obtain rfl : j = m := by omega
      have hcur : cur = marksI k j := by
        have h1 := own.len
        have := hall.out
        rw [List.take_of_length_le (by omega), List.take_of_length_le (by rw [marksI_length]; omega)] at this
        exact this
      subst hcur
      go_wp2_with fail
      go_returns
      exact ⟨rfl, own, hg⟩

theorem heldIntS_any (A : Option Addr) (c m : Nat) (k : Int) (w : World) (hes : IntsIn w w.heap.size A (marksI k m)) (hl : m ≤ 1048576) (k0 : 0 ≤ k) (k1 : k ≤ 4194304) :
    Calls Try.prog 25 #[.slice A m c, .int .i64 k] w fun e w' => e = .returned (.int .i64 (k + (m : Int))) ∧ w = w' := by
  go_enter Try.func25, Try.ntmps25
  go_wp2_with fail
  go_loop [1, 5] (fun kk i => ∃ j : Nat, j ≤ m ∧ i = .int .i64 j ∧ kk = .int .i64 (k + (j : Int))) (fun _ i => m - (intOf i).toNat)
  case atStart => exact ⟨0, by omega, rfl, by simp⟩
  case round =>
    obtain ⟨j, hj, rfl, rfl⟩ := hrel
    by_cases hlt : j < m
    · obtain ⟨b, off, rfl, hbb, g1⟩ := hes j _ (marksI_get k m j hlt)
      go_wp2_with fail
      go_round
      case rel => exact ⟨j + 1, by omega, by go_num, by go_num⟩
      case measure => simp [intOf]; omega
    · obtain rfl : j = m := by omega
      go_wp2_with fail
      go_returns
      exact ⟨rfl, rfl⟩
end Go.Proofs.Ytdacfeebidhgnaa
