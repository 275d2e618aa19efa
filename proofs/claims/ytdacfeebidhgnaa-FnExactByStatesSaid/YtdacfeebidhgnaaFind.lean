/- l2Find of the reference: for each node one that stands for its piece. -/
import Derived.Test.YtdacfeebidhgnaaPiecesOf
import Derived.Deep.AppendLies
namespace Go.Proofs.Ytdacfeebidhgnaa
open Go.RowKit
set_option maxRecDepth 100000

theorem int_info : (Try.prog.info? 3).map (fun i => (i.zero, i.size, i.bytes)) = some (some (.int .i64 0), 1, 8) := by kernel_rfl

/-- The slice v, of the call's own, holds p at 0 .. n-1. -/
def OwnN (w : World) (base : Nat) (v : Value) (p : Nat → Nat) (n : Nat) : Prop := w.ownsRow base 3 1 v n (rowN p n)
theorem OwnN.cell {w : World} {base g n c : Nat} {p : Nat → Nat} (h : OwnN w base (.slice (some ⟨g, 0, none⟩) n c) p n) {k : Nat} (hk : k < n) : w.cell? ⟨g, k, none⟩ = some (.int .i64 (p k : Nat)) :=
  (World.ownsRow.cellAt h k (by omega)).trans (rowN_get p hk)
theorem OwnN.frozen {w : World} {base g n c : Nat} {p : Nat → Nat} (h : OwnN w base (.slice (some ⟨g, 0, none⟩) n c) p n) (k : Nat) : w.frozen? ⟨g, k, none⟩ = false := World.ownsRow.frozenAt h k
theorem OwnN.store {w : World} {base g n c : Nat} {p : Nat → Nat} (h : OwnN w base (.slice (some ⟨g, 0, none⟩) n c) p n) (k v : Nat) : OwnN (w.setCell ⟨g, k, none⟩ (.int .i64 (v : Nat))) base (.slice (some ⟨g, 0, none⟩) n c) (upd p k v) n := by
  have h1 := (World.ownsRow.stored h k (.int .i64 (v : Nat))).1
  unfold OwnN
  rw [← rowN_set]; exact h1
theorem OwnN.ge {w : World} {base g n c : Nat} {p : Nat → Nat} (h : OwnN w base (.slice (some ⟨g, 0, none⟩) n c) p n) : base ≤ g ∧ g < w.heap.size := World.ownsRow.lt h g rfl
theorem OwnN.below {w w' : World} {base B g n c : Nat} {p : Nat → Nat} (h : OwnN w base (.slice (some ⟨g, 0, none⟩) n c) p n) (hb : Below B w w') (hB : g < B) : OwnN w' base (.slice (some ⟨g, 0, none⟩) n c) p n := by
  rcases h.2 with ⟨hv, _⟩ | ⟨g', cap, cur, hv, hb', hh, h3, h4, h5, h6⟩
  · cases hv
  · have hg : g' = g := by injection hv with h1 _ _; injection h1 with h1; injection h1 with h1; exact h1.symm
    subst hg
    exact ⟨h.1, .inr ⟨g', cap, cur, hv, hb', (hb.block g' hB).trans hh, h3, h4, h5, h6⟩⟩
theorem OwnN.more {w : World} {base base' g n c : Nat} {p : Nat → Nat} (h : OwnN w base (.slice (some ⟨g, 0, none⟩) n c) p n) (hB : base' ≤ base) : OwnN w base' (.slice (some ⟨g, 0, none⟩) n c) p n := by
  rcases h.2 with ⟨hv, _⟩ | ⟨g', cap, cur, hv, hb', hh⟩
  · cases hv
  · exact ⟨h.1, .inr ⟨g', cap, cur, hv, by omega, hh⟩⟩
theorem rowN_succ (p : Nat → Nat) (n : Nat) : rowN p n ++ [.int .i64 (p n : Nat)] = rowN p (n + 1) := by simp [rowN, List.range_succ]
theorem Rep.stay {E : Nat → Nat × Nat} {T : Nat → Bool} {k n a b : Nat} {R : Nat → Nat} (h : Rep E T k n R) (hE : E k = (a, b)) (hab : R a = R b) : Rep E T (k + 1) n R := by
  refine ⟨h.idem, ?_, fun F hF => h.least F fun i hi => hF i (by omega), h.range⟩
  intro i hi ht
  by_cases hik : i = k
  · subst hik; rw [hE]; exact hab
  · exact h.joins i (by omega) ht
theorem tmod_of (m k : Nat) : ((m : Int) / 2 ^ k).tmod 2 = ((m / 2 ^ k % 2 : Nat) : Int) := by
  have : ((m : Int) / 2 ^ k) = ((m / 2 ^ k : Nat) : Int) := by rw [Int.natCast_ediv, Int.natCast_pow]; rfl
  rw [this, Int.tmod_eq_emod_of_nonneg (Int.natCast_nonneg _)]; rfl
theorem Rep.mm {E : Nat → Nat × Nat} {T : Nat → Bool} {k n a b : Nat} {R : Nat → Nat} (h : Rep E T k n R) (ha : 1 ≤ a ∧ a ≤ n) (hb : 1 ≤ b ∧ b ≤ n) (hE : E k = (a, b)) (ht : T k = true) :
    ∃ G, Rep E T (k + 1) n G ∧ ∀ z, G z = if R z = max (R a) (R b) then min (R a) (R b) else R z := by
  by_cases hlt : R a < R b
  · refine ⟨_, h.both ha (.inl hE) ht, fun z => ?_⟩
    rw [show max (R a) (R b) = R b by omega, show min (R a) (R b) = R a by omega]; rfl
  · refine ⟨_, h.both hb (.inr hE) ht, fun z => ?_⟩
    rw [show max (R a) (R b) = R a by omega, show min (R a) (R b) = R b by omega]; rfl
theorem bit_of (m k : Nat) : m.testBit k = decide (m / 2 ^ k % 2 = 1) := by rw [Nat.testBit_eq_decide_div_mod_eq]

set_option maxRecDepth 100000 in
set_option maxHeartbeats 4000000 in
theorem l2Find_any (n s : Int) (A : Option Addr) (cap : Nat) (es : List (Int × Int)) (w : World) (hes : EdgesIn w w.heap.size A es) (hn : netOkB n es = true) (h0 : 0 ≤ s) (hs : s < 512) :
    Calls Try.prog 122 #[.agg #[.int .i64 n, .slice A es.length cap], .int .i64 s] w fun e w' => Below w.heap.size w w' ∧ ∃ g c q R, e = .returned (.slice (some ⟨g, 0, none⟩) (n.toNat + 1) c) ∧ OwnN w' w.heap.size (.slice (some ⟨g, 0, none⟩) (n.toNat + 1) c) q (n.toNat + 1) ∧ (∀ x, 1 ≤ x → x ≤ n.toNat → q x = R x) ∧ Rep (endsOf es) (bits s) es.length n.toNat R := by
  have h9 := (netOkB_iff.1 hn).2.1
  have hn6 := (netOkB_iff.1 hn).1
  have HN := Lib.hid hn
  obtain ⟨m, rfl⟩ : ∃ m : Nat, s = m := ⟨s.toNat, by omega⟩
  obtain ⟨N, rfl⟩ : ∃ N : Nat, n = N := ⟨n.toNat, by omega⟩
  obtain ⟨i0, hi0, hz0, hz1, hz2⟩ := info_parts int_info
  clear hn
  have L0 := ArgNet.start (cap := cap) (n := N) 29 hes
  go_enter Try.func122, Try.ntmps122
  go_wp2_with fail
  go_loopw [5, 6] (fun v t wr => ∃ (k g c : Nat), k ≤ N + 1 ∧ t = .int .i64 (k : Nat) ∧ v = .slice (some ⟨g, 0, none⟩) k c ∧ OwnN wr (w.heap.size + 1) (.slice (some ⟨g, 0, none⟩) k c) (fun x => x) k ∧ ArgNet w wr N A cap es) (fun _ t _ => N + 1 - (intOf t).toNat)
  case atStart =>
    have L1 := L0.step ((Below.refl (w.heap.size + 1) _).alloc (by simp) (.cells #[] 3)) (by omega)
    exact ⟨0, _, 0, by omega, rfl, rfl, by simpa [OwnN, rowN] using World.ownsRow_made (base := w.heap.size + 1) (e := 3) (size := 1) (w.alloc (.cells #[.int .i64 N, .slice A es.length cap] 29)) #[] 0 (by simp) (by decide) rfl, L1⟩
  case round =>
    obtain ⟨k, g, c, hk, rfl, rfl, OW, L⟩ := hrel
    obtain ⟨_, _, c0, c1, s1⟩ := id L
    by_cases hlt : k < N + 1
    · have HOW := Lib.hid OW
      have hge := OW.ge
      clear OW
      go_wp2_with (at_builtin; (refine wpList_append_lies _ rfl (.tmp 18) (.tmp 20) 33 rfl (w.heap.size + 1) 3 i0 _ 1 8 Try.underlying33 hi0 hz0 hz1 hz2 rfl (by omega) (.slice (some ⟨g, 0, none⟩) k c) k (rowN (fun x => x) k) rfl (World.ownsRow.alloc HOW.out _) ⟨wr.heap.size, 0, none⟩ 1 1 [.int .i64 (k : Nat)] rfl rfl (World.news_of_block (cs := #[.int .i64 (k : Nat)]) (t := 3) (fr := (0, 0)) (heap_alloc_new _ _)) (by simp [Value.oneCell']) (by omega) (by simp [maxLen]; omega) (by omega) (by simp; omega) _ rfl ?_); intro gg cc w5 hown5 hgrow hat hlt5; have hbel : Below (w.heap.size + 1) wr w5 := ((Below.refl (w.heap.size + 1) wr).alloc (by omega) _).grown hgrow (by simp; omega) (fun j hj => (World.ownsRow.lt HOW.out j hj).1))
      have L5 := L.step hbel (by omega)
      have O5 : OwnN w5 (w.heap.size + 1) (.slice (some ⟨gg, 0, none⟩) (k + 1) cc) (fun x => x) (k + 1) := by
        unfold OwnN; rw [← rowN_succ]; exact hown5
      go_roundw
      case rel => exact ⟨k + 1, gg, cc, by omega, by go_num, rfl, O5, L5⟩
      case measure => simp [intOf]; omega
    · obtain rfl : k = N + 1 := by omega
      go_wp2_with fail
      clear c0 c1 s1 L0 hk hlt
      go_loopw [7] (fun t wr => ∃ (k : Nat) (R S : Nat → Nat), k ≤ es.length ∧ t = .int .i64 (k : Nat) ∧ OwnN wr (w.heap.size + 1) (.slice (some ⟨g, 0, none⟩) (N + 1) c) S (N + 1) ∧ ArgNet w wr N A cap es ∧ (∀ x, 1 ≤ x → x ≤ N → S x = R x) ∧ Rep (endsOf es) (bits m) k N R) (fun t _ => es.length - (intOf t).toNat)
      case atStart => exact ⟨0, _, _, by omega, rfl, OW, L, fun _ _ _ => rfl, Rep.start _ _ _ (fun _ => rfl)⟩
      case round =>
        clear OW L
        obtain ⟨k, R, S, hk, rfl, OW, L, hS, hR⟩ := hrel
        obtain ⟨_, _, c0, c1, s1⟩ := id L
        by_cases hlt : k < es.length
        · obtain ⟨a, b, he, hE, ha1, hb1, ha7, hb7, haN, hbN⟩ := fits_ends HN.out hlt
          obtain ⟨bl, off, rfl, hbb, g1, g2⟩ := L.at_ k _ (List.getElem?_eq_getElem hlt)
          rw [he] at g1 g2
          have sa := OW.cell (show a < N + 1 by omega)
          have sb := OW.cell (show b < N + 1 by omega)
          rw [hS a (by omega) (by omega)] at sa
          rw [hS b (by omega) (by omega)] at sb
          have ra := hR.range a (by omega) (by omega)
          have rb := hR.range b (by omega) (by omega)
          cases ht : bits m k with
          | false =>
            have hR' := hR.skip ht
            have hz : ((m : Int) / 2 ^ k).tmod 2 = 0 := by
              have := bit_of m k
              rw [tmod_of]; simp [bits] at ht; rw [ht] at this; simp at this; omega
            clear he hE ht hR
            generalize R a = x at *
            generalize R b = y at *
            go_wp2_with fail
            go_roundw
            case rel => exact ⟨k + 1, R, S, by omega, by go_num, OW, L, hS, hR'⟩
            case measure => simp [intOf]; omega
          | true =>
            have hz : ((m : Int) / 2 ^ k).tmod 2 = 1 := by
              have := bit_of m k
              rw [tmod_of]; simp [bits] at ht; rw [ht] at this; simp at this; omega
            by_cases hxy : R a = R b
            · have hR' := hR.stay hE hxy
              rw [← hxy] at sb
              clear he hE ht hR hxy
              generalize R a = x at *
              go_wp2_with fail
              go_roundw
              case rel => exact ⟨k + 1, R, S, by omega, by go_num, OW, L, hS, hR'⟩
              case measure => simp [intOf]; omega
            · obtain ⟨G, hR', hG⟩ := hR.mm ⟨ha1, haN⟩ ⟨hb1, hbN⟩ hE ht
              have hxy' : ¬ ((R a : Int) = R b) := by omega
              clear he hE ht hR hxy
              generalize R a = x at *
              generalize R b = y at *
              obtain ⟨M, hM⟩ : ∃ M, max x y = M := ⟨_, rfl⟩
              obtain ⟨I, hI⟩ : ∃ I, min x y = I := ⟨_, rfl⟩
              rw [hM, hI] at hG
              have hmx : (if x < y then (y : Int) else x) = M := by rw [← hM]; split <;> omega
              have hmn : (if y < x then (y : Int) else x) = I := by rw [← hI]; split <;> omega
              clear hM hI
              go_wp2_with fail
              go_loopw [10] (fun t wr => ∃ (j : Nat) (S' : Nat → Nat), 1 ≤ j ∧ j ≤ N + 1 ∧ t = .int .i64 (j : Nat) ∧ OwnN wr (w.heap.size + 1) (.slice (some ⟨g, 0, none⟩) (N + 1) c) S' (N + 1) ∧ ArgNet w wr N (some ⟨bl, off, none⟩) cap es ∧ (∀ z, 1 ≤ z → z < j → S' z = G z) ∧ (∀ z, j ≤ z → z ≤ N → S' z = R z)) (fun t _ => N + 1 - (intOf t).toNat)
              case atStart => exact ⟨1, S, by omega, by omega, rfl, OW, L, fun z h1 h2 => by omega, hS⟩
              case round =>
                clear OW L hS c0 c1 s1 sa sb S
                obtain ⟨j, S, hj1, hj, rfl, OW, L, hS, hS2⟩ := hrel
                obtain ⟨_, _, c0, c1, s1⟩ := id L
                by_cases hjN : j ≤ N
                · have cj := OW.cell (show j < N + 1 by omega)
                  have fj := OW.frozen j
                  have hge := OW.ge
                  rw [hS2 j (by omega) hjN] at cj
                  have hGj := Lib.hid (hG j)
                  have O2 := OW.store j I
                  have L2 := L.step ((Below.refl (w.heap.size + 1) wr).setCell (p := ⟨g, j, none⟩) (by simp; omega) (.int .i64 (I : Nat))) (by omega)
                  have hS2' : ∀ z, j + 1 ≤ z → z ≤ N → upd S j I z = R z := fun z h1 h2 => by
                    unfold upd; rw [if_neg (by omega)]; exact hS2 z (by omega) h2
                  by_cases hv : R j = M
                  · have hS' : ∀ z, 1 ≤ z → z < j + 1 → upd S j I z = G z := by
                      intro z h1 h2
                      unfold upd; split
                      · rename_i e; subst e; rw [hGj.out, if_pos hv]
                      · exact hS z h1 (by omega)
                    rw [hv] at cj
                    clear hS hS2 hv
                    go_wp2_with fail
                    go_roundw
                    case rel => exact ⟨j + 1, upd S j I, by omega, by omega, by go_num, O2, L2, hS', hS2'⟩
                    case measure => simp [intOf]; omega
                  · have hS' : ∀ z, 1 ≤ z → z < j + 1 → S z = G z := by
                      intro z h1 h2
                      by_cases e : z = j
                      · subst e; rw [hGj.out, if_neg hv]; exact hS2 z (by omega) hjN
                      · exact hS z h1 (by omega)
                    have hv' : ¬ ((R j : Int) = M) := by omega
                    clear hS hv
                    generalize R j = v at *
                    go_wp2_with fail
                    go_roundw
                    case rel => exact ⟨j + 1, S, by omega, by omega, by go_num, OW, L, hS', fun z h1 h2 => hS2 z (by omega) h2⟩
                    case measure => simp [intOf]; omega
                · obtain rfl : j = N + 1 := by omega
                  go_wp2_with fail
                  go_roundw
                  case rel => exact ⟨_, _, _, _, _, _, _, _, _, _, _, _, _, _, _, _, _, _, _, _, _, _, _, _, _, _, _, _, _, _, _, _, _, _, _, _, _, _, _, _, _, _, _, _, _, _, _, _, _, _, _, _, _, _, _, _, _, _, _, ⟨k + 1, G, S, by omega, by go_num, OW, L, fun x h1 h2 => hS x h1 (by omega), hR'⟩, rfl⟩
                  case measure => simp [intOf]; omega
        · obtain rfl : k = es.length := by omega
          go_wp2_with fail
          go_returns
          exact ⟨L.below, g, c, S, R, rfl, OW.more (by omega), hS, hR⟩
end Go.Proofs.Ytdacfeebidhgnaa
