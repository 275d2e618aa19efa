/- Chapter 10 of the program: CountFlows. -/
import Derived.Test.YtdacfeebidhgnaaImpl10a
import Derived.Test.YtdacfeebidhgnaaSpec10d
import Derived.Test.YtdacfeebidhgnaaArr
import Derived.BigRegion
namespace Go.Proofs.Ytdacfeebidhgnaa
open Go.RowKit
set_option maxRecDepth 100000

/-- Block g, of the call's own from block 'base' on, holds seven numbers. -/
def ArrI (w : World) (base g : Nat) (p : Nat → Int) : Prop := w.ownsRow base 80 1 (.slice (some ⟨g, 0, none⟩) 7 7) 7 (ints (rowL p 7))
theorem ArrI.cell {w : World} {base g : Nat} {p : Nat → Int} (h : ArrI w base g p) {k : Nat} (hk : k < 7) : w.cell? ⟨g, k, none⟩ = some (.int .i64 (p k)) :=
  (World.ownsRow.cellAt h k (by omega)).trans (ints_get (rowL_get p hk))
theorem ArrI.frozen {w : World} {base g : Nat} {p : Nat → Int} (h : ArrI w base g p) (k : Nat) : w.frozen? ⟨g, k, none⟩ = false := World.ownsRow.frozenAt h k
theorem ArrI.store {w : World} {base g : Nat} {p : Nat → Int} (h : ArrI w base g p) (k : Nat) (v : Int) : ArrI (w.setCell ⟨g, k, none⟩ (.int .i64 v)) base g (updI p k v) := by
  have h1 := (World.ownsRow.stored h k (.int .i64 v)).1
  unfold ArrI
  rw [← rowL_set, ints_set]; exact h1
theorem ArrI.lt {w : World} {base g : Nat} {p : Nat → Int} (h : ArrI w base g p) : g < w.heap.size := (World.ownsRow.lt h g rfl).2
theorem ArrI.below {w w' : World} {base B g : Nat} {p : Nat → Int} (h : ArrI w base g p) (hb : Below B w w') (hB : g < B) : ArrI w' base g p := by
  rcases h.2 with ⟨hv, _⟩ | ⟨g', cap, cur, hv, hb', hh, h3, h4, h5, h6⟩
  · cases hv
  · have hg : g' = g := by injection hv with h1 _ _; injection h1 with h1; injection h1 with h1; exact h1.symm
    subst hg
    exact ⟨h.1, .inr ⟨g', cap, cur, hv, hb', (hb.block g' hB).trans hh, h3, h4, h5, h6⟩⟩
theorem ArrI.next {w w' : World} {base g : Nat} {p : Nat → Int} (h : ArrI w base g p) (hb : Below w.heap.size w w') : ArrI w' base g p := h.below hb h.lt
def arrIC (q : Nat → Int) : Array Value := #[.int .i64 (q 0), .int .i64 (q 1), .int .i64 (q 2), .int .i64 (q 3), .int .i64 (q 4), .int .i64 (q 5), .int .i64 (q 6)]
theorem ArrI.box (w : World) {base : Nat} (q : Nat → Int) (hb : base ≤ w.heap.size) : ArrI (w.alloc (.cells (arrIC q) 80)) base w.heap.size q :=
  ⟨by rw [ints_length, rowL_length], .inr ⟨w.heap.size, 7, arrIC q, rfl, hb, heap_alloc_new w _, Nat.le_refl _, by decide, rfl, rfl⟩⟩

/-- The digits, each one more. -/
def flL (c s m : Nat) : List Int := rowL (fun i => ((s / c ^ i % c + 1 : Nat) : Int)) m
theorem flL_length (c s m : Nat) : (flL c s m).length = m := rowL_length _ _
theorem flL_get {c s m k : Nat} (h : k < m) : (flL c s m)[k]? = some ((s / c ^ k % c + 1 : Nat) : Int) := rowL_get _ h
theorem accK_row {c : Nat} {l : List (Nat × Nat)} {s k a b : Nat} (h : l[k]? = some (a, b)) (hab : a ≠ b) :
    updI (updI (accK c l s k) a (accK c l s k a + ((s / c ^ k % c + 1 : Nat) : Int))) b (accK c l s k b - ((s / c ^ k % c + 1 : Nat) : Int)) = accK c l s (k + 1) := by
  funext v
  rw [accK_next h]
  unfold updI addF
  by_cases h1 : v = b
  · subst h1; simp [Ne.symm hab]
  · by_cases h2 : v = a
    · subst h2; simp [h1]
    · simp [h1, h2]
theorem accK_out {n c : Nat} {l : List (Nat × Nat)} (he : EdgesOk n l) (s v : Nat) (hv : v = 0 ∨ n < v) : ∀ k, accK c l s k v = 0
  | 0 => rfl
  | k + 1 => by
    cases hk : l[k]? with
    | none => simp only [accK, hk]; exact accK_out he s v hv k
    | some e =>
      have := he e (List.mem_of_getElem? hk)
      rw [accK_next hk]
      unfold addF
      rw [accK_out he s v hv k, if_neg (by omega), if_neg (by omega)]; rfl
theorem tmod_zero (x : Int) (m : Nat) : x.tmod (m : Int) = 0 ↔ x % (m : Int) = 0 :=
  ⟨fun h => Int.emod_eq_zero_of_dvd (Int.dvd_of_tmod_eq_zero h), fun h => Int.tmod_eq_zero_of_dvd (Int.dvd_of_emod_eq_zero h)⟩
theorem even_some {m n : Nat} {l : List (Nat × Nat)} {s : Nat} {c : Nat} (hc : c = m - 1) (he : EdgesOk n l) {v : Nat} (h : accK c l s l.length v % (m : Int) ≠ 0) : flowQ m n l s = false := by
  subst hc
  rw [← Bool.not_eq_true, flowQ_iff]
  intro hh
  by_cases h1 : v = 0 ∨ n < v
  · rw [accK_out he s v h1] at h; exact h (Int.zero_emod _)
  · exact h (hh v (by omega) (by omega))
theorem even_all {m n : Nat} {l : List (Nat × Nat)} {s : Nat} {c : Nat} (hc : c = m - 1) (hn : n ≤ 6) (h : ∀ v, v < 7 → accK c l s l.length v % (m : Int) = 0) : flowQ m n l s = true := by
  subst hc
  rw [flowQ_iff]
  exact fun v _ h2 => h v (by omega)

set_option maxHeartbeats 8000000 in
theorem evenOut_any (m M K s d : Nat) (hM : M = K + 1) (A B : Option Addr) (cap : Nat) (es : List (Int × Int)) (w : World) (hes : EdgesIn w w.heap.size A es) (hn : netOkB m es = true) (h6l : es.length ≤ 6) (hK : es.length = 0 ∨ 1 ≤ K) (hK3 : K ≤ 3) (hx : IntsIn w w.heap.size B (flL K s es.length)) :
    Calls Try.prog 108 #[.agg #[.int .i64 (m : Nat), .slice A es.length cap], .slice B es.length d, .int .i64 (M : Nat)] w fun e w' => e = .returned (.bool (flowQ M m (endsL es) s)) ∧ Below w.heap.size w w' := by
  have h6 := (netOkB_iff.1 hn).1
  have HN := Lib.hid hn
  have HLL := Lib.hid (endsL_length es)
  have HE : Hid (EdgesOk m (endsL es)) := by have := endsL_ok hn; rwa [Int.toNat_natCast] at this
  obtain ⟨q, hq⟩ : ∃ q, flowQ M m (endsL es) s = q := ⟨_, rfl⟩
  have HF : Hid (∀ v, accK K (endsL es) s es.length v % (M : Int) ≠ 0 → q = false) := fun v h => by
    rw [← hq]; exact even_some (m := M) (by omega) HE.out (HLL.out.symm ▸ h)
  have HTR : Hid ((∀ v, v < 7 → accK K (endsL es) s es.length v % (M : Int) = 0) → q = true) := fun h => by
    rw [← hq]; exact even_all (m := M) (by omega) (by omega) (HLL.out.symm ▸ h)
  have hm6 : m ≤ 6 := by omega
  have hMp : 1 ≤ M := by omega
  rw [hq]
  have HX := Lib.hid hx
  have HA0 : accK K (endsL es) s 0 = fun _ => 0 := rfl
  clear hn hq h6 hx hM
  go_enter Try.func108, Try.ntmps108
  go_wp2
  have B0 : Below w.heap.size w ((w.alloc (.cells #[.int .i64 (m : Nat), .slice A es.length cap] 29)).alloc (.cells (arrIC fun _ => 0) 80)) := by go_grown
  have L0 : ArgNet w ((w.alloc (.cells #[.int .i64 (m : Nat), .slice A es.length cap] 29)).alloc (.cells (arrIC fun _ => 0) 80)) m A cap es :=
    (ArgNet.start 29 hes).step ((Below.refl (w.heap.size + 1) _).alloc (by simp) _) (by omega)
  have A0 : ArrI ((w.alloc (.cells #[.int .i64 (m : Nat), .slice A es.length cap] 29)).alloc (.cells (arrIC fun _ => 0) 80)) w.heap.size (w.heap.size + 1) (accK K (endsL es) s 0) := by
    rw [HA0]
    simpa using ArrI.box (w.alloc (.cells #[.int .i64 (m : Nat), .slice A es.length cap] 29)) (base := w.heap.size) (fun _ => 0) (by simp)
  have I0 : IntsIn ((w.alloc (.cells #[.int .i64 (m : Nat), .slice A es.length cap] 29)).alloc (.cells (arrIC fun _ => 0) 80)) w.heap.size B (flL K s es.length) := (HX.out.alloc (Nat.le_refl _) _).alloc (by simp) _
  have e0 : arrIC (fun _ => 0) = #[.int .i64 0, .int .i64 0, .int .i64 0, .int .i64 0, .int .i64 0, .int .i64 0, .int .i64 0] := rfl
  rw [e0] at L0 A0 I0 B0
  clear e0
  generalize hW : ((w.alloc (.cells #[.int .i64 (m : Nat), .slice A es.length cap] 29)).alloc (.cells #[.int .i64 0, .int .i64 0, .int .i64 0, .int .i64 0, .int .i64 0, .int .i64 0, .int .i64 0] 80)) = W0 at *
  clear hW
  go_loopw [15] (fun t wr => ∃ k : Nat, k ≤ es.length ∧ t = .int .i64 (k : Nat) ∧ ArrI wr w.heap.size (w.heap.size + 1) (accK K (endsL es) s k) ∧ Below (w.heap.size + 1) W0 wr) (fun t _ => es.length - (intOf t).toNat)
  case atStart => exact ⟨0, by omega, rfl, A0, Below.refl _ _⟩
  case round =>
    clear A0
    obtain ⟨k, hk, rfl, A1, B1⟩ := hrel
    have L1 := L0.step B1 (by omega)
    have I1 := I0.below B1 (show w.heap.size ≤ w.heap.size + 1 by omega)
    obtain ⟨_, _, c0, c1, s1⟩ := id L1
    by_cases hlt : k < es.length
    · obtain ⟨a, b, he, hE, ha1, hb1, ha7, hb7, han, hbn⟩ := fits_ends HN.out hlt
      obtain ⟨bl, off, rfl, hbb, g1, g2⟩ := L1.at_ k _ (List.getElem?_eq_getElem hlt)
      rw [he] at g1 g2
      have hll : (endsL es)[k]? = some (a, b) := by
        rw [endsL_at (List.getElem?_eq_getElem hlt), he]; simp [endN]
      obtain ⟨gb, og, hBB, hgl, y1⟩ := I1 k _ (flL_get hlt)
      subst hBB
      have hsz : w.heap.size + 1 < wr.heap.size := A1.lt
      have hK1 : 1 ≤ K := by omega
      have hab : ¬ a = b := by
        have h1 := (netOkB_iff.1 HN.out).2.2 _ (List.getElem_mem hlt)
        rw [he] at h1
        simp only at h1; omega
      have HR := Lib.hid (accK_row (c := K) (s := s) hll hab)
      have hd := dig_small (c := K) (s := s) (k := k) hK1 hK3
      have hba := accK_bound hK1 hK3 (endsL es) s a k
      have hbb2 := accK_bound hK1 hK3 (endsL es) s b k
      have a1 := A1.cell (k := a) (by omega)
      have a2 := A1.cell (k := b) (by omega)
      have f1 := A1.frozen a
      have f2 := A1.frozen b
      have HA := Lib.hid A1
      have HB2 := fun o => B1.trans ((Below.refl (w.heap.size + 1) wr).alloc (by omega) o)
      generalize accK K (endsL es) s k = p at *
      generalize s / K ^ k % K + 1 = D at *
      have hs1 : IntKind.i64.wrap (p a + (D : Int)) = p a + (D : Int) := IntWalk.i64_in _ (by omega)
      have hs2 : IntKind.i64.wrap (p b - (D : Int)) = p b - (D : Int) := IntWalk.i64_in _ (by omega)
      have ik : (k : Int) < (es.length : Int) := by omega
      have hgw : gb < wr.heap.size := by omega
      have i7a : (a : Int) < 7 := by omega
      have i7b : (b : Int) < 7 := by omega
      generalize hpa : p a = ya at *
      generalize hpb : p b = yb at *
      have HPB := Lib.hid hpb
      clear hpa hpb hE he hll hba hbb2 A1 hd
      go_wp2_with fail
      go_region
      go_wp2_with fail
      go_region
      go_wp2_with fail
      go_roundw
      case rel =>
        have R1 : ArrI (((wr.setCell ⟨w.heap.size + 1, a, none⟩ (.int .i64 (ya + (D : Int)))).setCell ⟨w.heap.size + 1, b, none⟩ (.int .i64 (yb - (D : Int)))).alloc (.cells #[.int .i64 a, .int .i64 b] 57)).drew.drew w.heap.size (w.heap.size + 1) (accK K (endsL es) s (k + 1)) := by
          rw [← HR.out]
          exact (((HA.out.store a _).store b _).next ((Below.refl _ _).alloc (Nat.le_refl _) _)).next (Below.refl _ _).drew.drew
        have R2 : Below (w.heap.size + 1) W0 (((wr.setCell ⟨w.heap.size + 1, a, none⟩ (.int .i64 (ya + (D : Int)))).setCell ⟨w.heap.size + 1, b, none⟩ (.int .i64 (yb - (D : Int)))).alloc (.cells #[.int .i64 a, .int .i64 b] 57)).drew.drew :=
          (((B1.setCell (by simp) _).setCell (by simp) _).alloc (by simp [World.setCell]; omega) _).drew.drew
        exact ⟨k + 1, by omega, by go_num, R1, R2⟩
      case measure => simp [intOf]; omega
    · obtain rfl : k = es.length := by omega
      have BB := B0.trans (B1.mono (by omega))
      have c0 := A1.cell (show 0 < 7 by omega); have c1 := A1.cell (show 1 < 7 by omega); have c2 := A1.cell (show 2 < 7 by omega); have c3 := A1.cell (show 3 < 7 by omega); have c4 := A1.cell (show 4 < 7 by omega); have c5 := A1.cell (show 5 < 7 by omega); have c6 := A1.cell (show 6 < 7 by omega)
      generalize accK K (endsL es) s es.length = p at *
      have hM0 : ¬ (M : Int) = 0 := by omega
      have hM1 : ((M : Int) == 0) = false := beq_eq_false_iff_ne.2 hM0
      clear A1 L1 I1 s1
      go_wp2_with fail
      go_loopw [42] (fun t wx => ∃ v : Nat, v ≤ 7 ∧ t = .int .i64 (v : Nat) ∧ Hid (∀ u, u < v → p u % (M : Int) = 0) ∧ wx = wr) (fun t _ => 7 - (intOf t).toNat)
      case atStart => exact ⟨0, by omega, rfl, fun u hu => by omega, rfl⟩
      case round =>
        obtain ⟨v, hv, rfl, HA, rfl⟩ := hrel
        by_cases hv7 : v = 7
        · subst hv7
          have hqt : q = true := HTR.out fun u hu => HA.out u hu
          subst hqt
          go_wp2_with fail
          go_returns
          exact ⟨by first | rfl | simp, BB⟩
        · have hcase : v = 0 ∨ v = 1 ∨ v = 2 ∨ v = 3 ∨ v = 4 ∨ v = 5 ∨ v = 6 := by omega
          rcases hcase with rfl | rfl | rfl | rfl | rfl | rfl | rfl
          · have hix : ∀ u, (Instr.index 80 (.agg #[.int .i64 (p 0), .int .i64 (p 1), .int .i64 (p 2), .int .i64 (p 3), .int .i64 (p 4), .int .i64 (p 5), .int .i64 (p 6)]) (.int .i64 0)).run Try.prog u = .ok (.int .i64 (p 0)) u := fun _ => by kernel_rfl
            by_cases h0 : p 0 % (M : Int) = 0
            · have ht := (tmod_zero (p 0) M).2 h0
              have HA2 : Hid (∀ u, u < 0 + 1 → p u % (M : Int) = 0) := fun u hu => by
                by_cases e : u = 0
                · rw [e]; exact h0
                · exact HA.out u (by omega)
              clear h0
              go_wp2_with fail
              go_roundw
              case rel => exact ⟨0 + 1, by omega, by first | rfl | go_num, HA2, trivial⟩
              case measure => simp [intOf]
            · have hqf : q = false := HF.out 0 h0
              have ht : ¬ (p 0).tmod (M : Int) = 0 := fun h => h0 ((tmod_zero (p 0) M).1 h)
              have ht2 : ((p 0).tmod (M : Int) == 0) = false := beq_eq_false_iff_ne.2 ht
              subst hqf
              clear h0
              go_wp2_with fail
              go_returns
              exact ⟨by first | rfl | simp, BB⟩
          · have hix : ∀ u, (Instr.index 80 (.agg #[.int .i64 (p 0), .int .i64 (p 1), .int .i64 (p 2), .int .i64 (p 3), .int .i64 (p 4), .int .i64 (p 5), .int .i64 (p 6)]) (.int .i64 1)).run Try.prog u = .ok (.int .i64 (p 1)) u := fun _ => by kernel_rfl
            by_cases h0 : p 1 % (M : Int) = 0
            · have ht := (tmod_zero (p 1) M).2 h0
              have HA2 : Hid (∀ u, u < 1 + 1 → p u % (M : Int) = 0) := fun u hu => by
                by_cases e : u = 1
                · rw [e]; exact h0
                · exact HA.out u (by omega)
              clear h0
              go_wp2_with fail
              go_roundw
              case rel => exact ⟨1 + 1, by omega, by first | rfl | go_num, HA2, trivial⟩
              case measure => simp [intOf]
            · have hqf : q = false := HF.out 1 h0
              have ht : ¬ (p 1).tmod (M : Int) = 0 := fun h => h0 ((tmod_zero (p 1) M).1 h)
              have ht2 : ((p 1).tmod (M : Int) == 0) = false := beq_eq_false_iff_ne.2 ht
              subst hqf
              clear h0
              go_wp2_with fail
              go_returns
              exact ⟨by first | rfl | simp, BB⟩
          · have hix : ∀ u, (Instr.index 80 (.agg #[.int .i64 (p 0), .int .i64 (p 1), .int .i64 (p 2), .int .i64 (p 3), .int .i64 (p 4), .int .i64 (p 5), .int .i64 (p 6)]) (.int .i64 2)).run Try.prog u = .ok (.int .i64 (p 2)) u := fun _ => by kernel_rfl
            by_cases h0 : p 2 % (M : Int) = 0
            · have ht := (tmod_zero (p 2) M).2 h0
              have HA2 : Hid (∀ u, u < 2 + 1 → p u % (M : Int) = 0) := fun u hu => by
                by_cases e : u = 2
                · rw [e]; exact h0
                · exact HA.out u (by omega)
              clear h0
              go_wp2_with fail
              go_roundw
              case rel => exact ⟨2 + 1, by omega, by first | rfl | go_num, HA2, trivial⟩
              case measure => simp [intOf]
            · have hqf : q = false := HF.out 2 h0
              have ht : ¬ (p 2).tmod (M : Int) = 0 := fun h => h0 ((tmod_zero (p 2) M).1 h)
              have ht2 : ((p 2).tmod (M : Int) == 0) = false := beq_eq_false_iff_ne.2 ht
              subst hqf
              clear h0
              go_wp2_with fail
              go_returns
              exact ⟨by first | rfl | simp, BB⟩
          · have hix : ∀ u, (Instr.index 80 (.agg #[.int .i64 (p 0), .int .i64 (p 1), .int .i64 (p 2), .int .i64 (p 3), .int .i64 (p 4), .int .i64 (p 5), .int .i64 (p 6)]) (.int .i64 3)).run Try.prog u = .ok (.int .i64 (p 3)) u := fun _ => by kernel_rfl
            by_cases h0 : p 3 % (M : Int) = 0
            · have ht := (tmod_zero (p 3) M).2 h0
              have HA2 : Hid (∀ u, u < 3 + 1 → p u % (M : Int) = 0) := fun u hu => by
                by_cases e : u = 3
                · rw [e]; exact h0
                · exact HA.out u (by omega)
              clear h0
              go_wp2_with fail
              go_roundw
              case rel => exact ⟨3 + 1, by omega, by first | rfl | go_num, HA2, trivial⟩
              case measure => simp [intOf]
            · have hqf : q = false := HF.out 3 h0
              have ht : ¬ (p 3).tmod (M : Int) = 0 := fun h => h0 ((tmod_zero (p 3) M).1 h)
              have ht2 : ((p 3).tmod (M : Int) == 0) = false := beq_eq_false_iff_ne.2 ht
              subst hqf
              clear h0
              go_wp2_with fail
              go_returns
              exact ⟨by first | rfl | simp, BB⟩
          · have hix : ∀ u, (Instr.index 80 (.agg #[.int .i64 (p 0), .int .i64 (p 1), .int .i64 (p 2), .int .i64 (p 3), .int .i64 (p 4), .int .i64 (p 5), .int .i64 (p 6)]) (.int .i64 4)).run Try.prog u = .ok (.int .i64 (p 4)) u := fun _ => by kernel_rfl
            by_cases h0 : p 4 % (M : Int) = 0
            · have ht := (tmod_zero (p 4) M).2 h0
              have HA2 : Hid (∀ u, u < 4 + 1 → p u % (M : Int) = 0) := fun u hu => by
                by_cases e : u = 4
                · rw [e]; exact h0
                · exact HA.out u (by omega)
              clear h0
              go_wp2_with fail
              go_roundw
              case rel => exact ⟨4 + 1, by omega, by first | rfl | go_num, HA2, trivial⟩
              case measure => simp [intOf]
            · have hqf : q = false := HF.out 4 h0
              have ht : ¬ (p 4).tmod (M : Int) = 0 := fun h => h0 ((tmod_zero (p 4) M).1 h)
              have ht2 : ((p 4).tmod (M : Int) == 0) = false := beq_eq_false_iff_ne.2 ht
              subst hqf
              clear h0
              go_wp2_with fail
              go_returns
              exact ⟨by first | rfl | simp, BB⟩
          · have hix : ∀ u, (Instr.index 80 (.agg #[.int .i64 (p 0), .int .i64 (p 1), .int .i64 (p 2), .int .i64 (p 3), .int .i64 (p 4), .int .i64 (p 5), .int .i64 (p 6)]) (.int .i64 5)).run Try.prog u = .ok (.int .i64 (p 5)) u := fun _ => by kernel_rfl
            by_cases h0 : p 5 % (M : Int) = 0
            · have ht := (tmod_zero (p 5) M).2 h0
              have HA2 : Hid (∀ u, u < 5 + 1 → p u % (M : Int) = 0) := fun u hu => by
                by_cases e : u = 5
                · rw [e]; exact h0
                · exact HA.out u (by omega)
              clear h0
              go_wp2_with fail
              go_roundw
              case rel => exact ⟨5 + 1, by omega, by first | rfl | go_num, HA2, trivial⟩
              case measure => simp [intOf]
            · have hqf : q = false := HF.out 5 h0
              have ht : ¬ (p 5).tmod (M : Int) = 0 := fun h => h0 ((tmod_zero (p 5) M).1 h)
              have ht2 : ((p 5).tmod (M : Int) == 0) = false := beq_eq_false_iff_ne.2 ht
              subst hqf
              clear h0
              go_wp2_with fail
              go_returns
              exact ⟨by first | rfl | simp, BB⟩
          · have hix : ∀ u, (Instr.index 80 (.agg #[.int .i64 (p 0), .int .i64 (p 1), .int .i64 (p 2), .int .i64 (p 3), .int .i64 (p 4), .int .i64 (p 5), .int .i64 (p 6)]) (.int .i64 6)).run Try.prog u = .ok (.int .i64 (p 6)) u := fun _ => by kernel_rfl
            by_cases h0 : p 6 % (M : Int) = 0
            · have ht := (tmod_zero (p 6) M).2 h0
              have HA2 : Hid (∀ u, u < 6 + 1 → p u % (M : Int) = 0) := fun u hu => by
                by_cases e : u = 6
                · rw [e]; exact h0
                · exact HA.out u (by omega)
              clear h0
              go_wp2_with fail
              go_roundw
              case rel => exact ⟨6 + 1, by omega, by first | rfl | go_num, HA2, trivial⟩
              case measure => simp [intOf]
            · have hqf : q = false := HF.out 6 h0
              have ht : ¬ (p 6).tmod (M : Int) = 0 := fun h => h0 ((tmod_zero (p 6) M).1 h)
              have ht2 : ((p 6).tmod (M : Int) == 0) = false := beq_eq_false_iff_ne.2 ht
              subst hqf
              clear h0
              go_wp2_with fail
              go_returns
              exact ⟨by first | rfl | simp, BB⟩

/-- The digits, with the first j one more. -/
def incP (c s j : Nat) (i : Nat) : Int := if i < j then ((s / c ^ i % c + 1 : Nat) : Int) else ((s / c ^ i % c : Nat) : Int)
theorem incP_start (c s m : Nat) : rowL (incP c s 0) m = digL c s m := rowL_congr fun k _ => by simp [incP]
theorem incP_step (c s j m : Nat) : (rowL (incP c s j) m).set j ((s / c ^ j % c : Nat) + 1 : Int) = rowL (incP c s (j + 1)) m := by
  rw [rowL_set]
  refine rowL_congr fun k _ => ?_
  unfold updI incP
  by_cases h : k = j
  · subst h; simp
  · rw [if_neg h]
    by_cases h2 : k < j
    · rw [if_pos h2, if_pos (by omega)]
    · rw [if_neg h2, if_neg (by omega)]
theorem incP_end (c s m : Nat) : rowL (incP c s m) m = flL c s m := rowL_congr fun k hk => by simp [incP, hk]
theorem incP_at (c s j : Nat) : incP c s j j = ((s / c ^ j % c : Nat) : Int) := by unfold incP; rw [if_neg (by omega)]

/-- The boxes of CountFlows: the net, and the number. -/
def FlowAt (w u : World) (n : Int) (A : Option Addr) (cap : Nat) (es : List (Int × Int)) (x : Int) : Prop := ArgNet w u n A cap es ∧ u.cell? ⟨w.heap.size + 1, 0, none⟩ = some (.int .i64 x) ∧ w.heap.size + 2 ≤ u.heap.size
theorem FlowAt.on {w u : World} {n : Int} {A : Option Addr} {cap : Nat} {es : List (Int × Int)} {x : Int} (h : FlowAt w u n A cap es x) : ∀ u', Below u.heap.size u u' → FlowAt w u' n A cap es x := fun u' hb =>
  ⟨h.1.on _ hb, (hb.cell (p := ⟨w.heap.size + 1, 0, none⟩) (by have := h.2.2; simp; omega)).trans h.2.1, by have := hb.size; have := h.2.2; omega⟩
theorem FlowAt.grown {w u u' : World} {n : Int} {A : Option Addr} {cap : Nat} {es : List (Int × Int)} {x : Int} {B : Nat} (h : FlowAt w u n A cap es x) (hb : Below B u u') (hB : w.heap.size + 2 ≤ B) : FlowAt w u' n A cap es x :=
  ⟨h.1.step hb (by omega), (hb.cell (p := ⟨w.heap.size + 1, 0, none⟩) (by simp; omega)).trans h.2.1, by have := hb.size; have := h.2.2; omega⟩

set_option maxHeartbeats 4000000 in
theorem flowFn_any (m M K s d base : Nat) (hM : M = K + 1) (A B : Option Addr) (cap : Nat) (es : List (Int × Int)) (w u : World) (D : FlowAt w u m A cap es (M : Nat)) (hbase : w.heap.size + 2 ≤ base) (hbu : base ≤ u.heap.size) (hn : netOkB m es = true) (h6l : es.length ≤ 6) (hK : es.length = 0 ∨ 1 ≤ K) (hK3 : K ≤ 3) (own : OwnI u base (.slice B es.length d) (digL K s es.length)) :
    Calls Try.prog 107 #[.slice B es.length d, .pointer (some ⟨w.heap.size, 0, none⟩), .pointer (some ⟨w.heap.size + 1, 0, none⟩)] u fun e w' => e = .returned (.bool (flowQ M m (endsL es) s)) ∧ Below base u w' := by
  have HC : Hid (∀ v, FlowAt w v m A cap es (M : Nat) → IntsIn v v.heap.size B (flL K s es.length) → Calls Try.prog 108 #[.agg #[.int .i64 (m : Nat), .slice A es.length cap], .slice B es.length d, .int .i64 (M : Nat)] v fun e w' => e = .returned (.bool (flowQ M m (endsL es) s)) ∧ Below v.heap.size v w') := fun v h1 h2 =>
    evenOut_any m M K s d hM A B cap es v h1.1.edges hn h6l hK hK3 h2
  have HS : Hid (∀ j, (rowL (incP K s j) es.length).set j ((s / K ^ j % K : Nat) + 1 : Int) = rowL (incP K s (j + 1)) es.length) := fun j => incP_step K s j es.length
  have HE := Lib.hid (incP_end K s es.length)
  have HD : Hid (∀ j, j < es.length → s / K ^ j % K ≤ 3) := fun j hj => by
    have h1 : 1 ≤ K := by omega
    have := Nat.mod_lt (s / K ^ j) (show K > 0 by omega)
    omega
  have HAT : Hid (∀ j, incP K s j j = ((s / K ^ j % K : Nat) : Int)) := fun j => incP_at K s j
  rw [← incP_start] at own
  obtain ⟨L, hL⟩ : ∃ L, es.length = L := ⟨_, rfl⟩
  have hL6 : L ≤ 6 := by omega
  rw [hL] at HS HE own HC HD ⊢
  have HL := Lib.hid hL
  generalize flowQ M m (endsL es) s = q at *
  clear hM hn h6l hK hK3 hL
  go_enter Try.func107, Try.ntmps107
  go_wp2_with fail
  go_loopw [8] (fun t wr => ∃ j : Nat, j ≤ L ∧ t = .int .i64 (j : Nat) ∧ OwnI wr base (.slice B L d) (rowL (incP K s j) L) ∧ FlowAt w wr m A cap es (M : Nat) ∧ Below base u wr) (fun t _ => L - (intOf t).toNat)
  case atStart => exact ⟨0, by omega, rfl, own, D, Below.refl _ _⟩
  case round =>
    clear own D
    obtain ⟨j, hj, rfl, O, D, B1⟩ := hrel
    by_cases hlt : j < L
    · obtain ⟨gb, og, hBB⟩ := O.ints.head (by rw [rowL_length]; omega)
      subst hBB
      have hog : og = 0 := by
        rcases O.form with ⟨_, h0⟩ | ⟨g, cap', hv, _, _⟩
        · have := congrArg List.length h0; rw [rowL_length] at this; simp at this; omega
        · injection hv with hA; injection hA with hA; injection hA
      subst hog
      obtain ⟨y1, y2⟩ := O.slot (k := j) hlt
      rw [rowL_getD _ hlt, HAT.out] at y1
      have O3 := O.store j ((s / K ^ j % K : Nat) + 1 : Int)
      rw [HS.out] at O3
      have hgb := O.ge gb rfl
      have hd := HD.out j hlt
      generalize s / K ^ j % K = x at *
      have hw1 : IntKind.i64.wrap ((x : Int) + 1) = (x : Int) + 1 := IntWalk.i64_in _ (by omega)
      have ij : (j : Int) < (L : Int) := by omega
      clear O
      go_wp2_with fail
      go_roundw
      case rel => exact ⟨j + 1, by omega, by go_num, O3, D.grown ((Below.refl base wr).setCell (by simpa using hgb) _) hbase, B1.setCell (by simpa using hgb) _⟩
      case measure => simp [intOf]; omega
    · obtain rfl : j = L := by omega
      rw [HE.out] at O
      have HI := Lib.hid O.ints
      obtain ⟨⟨_, _, c0, c1, s0⟩, k1, k2⟩ := id D
      rw [HL.out] at c1
      clear O
      go_wp2_with fail
      refine (HC.out _ D HI.out).mono ?_
      rintro e1 w1 ⟨rfl, hb1⟩
      go_wp2_with fail
      go_returns
      exact ⟨by first | rfl | simp, B1.trans (hb1.mono (by have := B1.size; omega))⟩

set_option maxHeartbeats 4000000 in
theorem countFlows_any (n x : Int) (A : Option Addr) (cap : Nat) (es : List (Int × Int)) (w : World) (hes : EdgesIn w w.heap.size A es) (hl : es.length ≤ 1048576) :
    Calls Try.prog 46 #[.agg #[.int .i64 n, .slice A es.length cap], .int .i64 x] w fun e w' => e = .returned (.int .i64 (flowsI n es x)) ∧ Below w.heap.size w w' := by
  have hmf : ∀ (fn : Fn) (first cap : Array Value) (w : World), (Instr.makeFunc fn first cap).run Try.prog w = .ok (.func fn first cap) w := fun _ _ _ _ => rfl
  have L0 := ArgNet.start (cap := cap) (n := n) 29 hes
  have D0 : FlowAt w ((w.alloc (.cells #[.int .i64 n, .slice A es.length cap] 29)).alloc (.cells #[.int .i64 x] 3)) n A cap es x :=
    ⟨L0.step ((Below.refl (w.heap.size + 1) _).alloc (by simp) _) (by omega), by
      have := (cel_new (w.alloc (.cells #[.int .i64 n, .slice A es.length cap] 29)) (.int .i64 x) 3).1
      rwa [World.size_alloc] at this, by simp⟩
  have HN : Hid (∀ u, FlowAt w u n A cap es x → Calls Try.prog 106 #[.agg #[.int .i64 n, .slice A es.length cap], .int .i64 x] u fun e w' => e = .returned (.bool (flowOkB n es x)) ∧ Below u.heap.size u w') := fun u h => flowsOk_any n x A cap es u h.1.edges hl
  obtain ⟨⟨_, _, c0, c1, s0⟩, k1, k2⟩ := id D0
  cases hok : flowOkB n es x with
  | false =>
    have HV : Hid (flowsI n es x = -1) := if_neg (by rw [hok]; simp)
    rw [HV.out]
    rw [hok] at HN
    clear hes hok L0
    go_enter Try.func46, Try.ntmps46
    go_wp2_with fail
    refine (HN.out _ D0).mono ?_
    rintro e1 w1 ⟨rfl, hb1⟩
    have D1 := D0.on _ hb1
    go_wp2_with fail
    go_returns
    exact ⟨by first | rfl | simp, D1.1.below⟩
  | true =>
    rw [hok] at HN
    obtain ⟨hn, h6l, hx0, hx2⟩ : netOkB n es = true ∧ es.length ≤ 6 ∧ 1 ≤ x ∧ x ≤ 4 := by simpa [flowOkB] using hok
    have h6 := (netOkB_iff.1 hn).1
    obtain ⟨m, rfl⟩ : ∃ m : Nat, n = m := ⟨n.toNat, by omega⟩
    obtain ⟨M, rfl⟩ : ∃ M : Nat, x = M := ⟨x.toNat, by omega⟩
    obtain ⟨K, hK⟩ : ∃ K, M = K + 1 := ⟨M - 1, by omega⟩
    have hK3 : K ≤ 3 := by omega
    obtain ⟨W, hW⟩ : ∃ W, K ^ es.length = W := ⟨_, rfl⟩
    have hW2 : W ≤ 4096 := by rw [← hW]; exact powN_le (by omega) h6l
    have hKs : ∀ s, s < W → es.length = 0 ∨ 1 ≤ K := fun s hs => by
      rcases Nat.eq_zero_or_pos K with e | e
      · rcases Nat.eq_zero_or_pos es.length with e2 | e2
        · exact .inl e2
        · subst e; rw [Nat.zero_pow e2] at hW; omega
      · exact .inr e
    have HV : Hid (flowsI m es M = ((cP (flowQ M m (endsL es)) W : Nat) : Int)) := by
      unfold Hid flowsI; rw [if_pos hok, Int.toNat_natCast, Int.toNat_natCast, ← hW, show M - 1 = K by omega]
    have HC : Hid (∀ u, FlowAt w u m A cap es (M : Nat) → Calls Try.prog 101 #[.int .i64 es.length, .int .i64 K, .func (.func 107) #[] #[.pointer (some ⟨w.heap.size, 0, none⟩), .pointer (some ⟨w.heap.size + 1, 0, none⟩)]] u fun e w' => e = .returned (.int .i64 (flowsI m es M)) ∧ Below u.heap.size u w') := fun u h => by
      rw [HV.out]
      exact countWays_any 107 #[.pointer (some ⟨w.heap.size, 0, none⟩), .pointer (some ⟨w.heap.size + 1, 0, none⟩)] (flowQ M m (endsL es)) K es.length W u (by omega) (by omega) hW hW2 (fun _ _ => rfl)
        (fun v hv s hs A' d' ow => flowFn_any m M K s d' u.heap.size hK A A' cap es w v (h.on _ hv) h.2.2 hv.size hn h6l (hKs s hs) hK3 ow)
    have hwK : IntKind.i64.wrap ((M : Int) - 1) = (K : Int) := by rw [IntWalk.i64_in _ (by omega)]; omega
    generalize flowsI (m : Int) es (M : Int) = z at *
    clear hes hok HV h6 hn hKs hW hK L0 hx0 hx2
    go_enter Try.func46, Try.ntmps46
    go_wp2_with fail
    refine (HN.out _ D0).mono ?_
    rintro e1 w1 ⟨rfl, hb1⟩
    have D1 := D0.on _ hb1
    clear c0 c1 s0 k1 k2
    obtain ⟨⟨_, _, c0, c1, s0⟩, k1, k2⟩ := id D1
    go_wp2_with fail
    refine (HC.out _ D1).mono ?_
    rintro e2 w2 ⟨rfl, hb2⟩
    have D2 := D1.on _ hb2
    go_wp2_with fail
    go_returns
    exact ⟨by first | rfl | simp, D2.1.below⟩
end Go.Proofs.Ytdacfeebidhgnaa
