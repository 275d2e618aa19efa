/- Chapter 10 of the reference: arrows that lead back. -/
import Derived.Test.YtdacfeebidhgnaaTutte
import Derived.Test.YtdacfeebidhgnaaSpec10a
import Derived.Test.YtdacfeebidhgnaaTruth
import Derived.Test.YtdacfeebidhgnaaBits7
namespace Go.Proofs.Ytdacfeebidhgnaa
open Go.RowKit
set_option maxRecDepth 100000

theorem OwnT.set {u : World} {base g n c : Nat} {G : Nat → Bool} (h : OwnT u base g n c G) (k : Nat) (v : Bool) : OwnT (u.setCell ⟨g, k, none⟩ (.bool v)) base g n c (setG G k v) := (h.store k v).congr fun _ _ => rfl
theorem endsL_at {es : List (Int × Int)} {k : Nat} {e : Int × Int} (h : es[k]? = some e) : (endsL es)[k]? = some (endN e) := by unfold endsL; rw [List.getElem?_map, h]; rfl
theorem bit_div (s k : Nat) : ((s : Int) / 2 ^ k).tmod 2 = if s.testBit k = true then 1 else 0 := bit_tmod s k
theorem inG_last {l : List (Nat × Nat)} {T G : Nat → Bool} {j k : Nat} (h : k = l.length) : inG l T G j k = inG l T G j l.length := by rw [h]

theorem comes_set {l : List (Nat × Nat)} {T G : Nat → Bool} {r m j : Nat} (hI : InvG l T G) (hC : r + 1 ≤ cntG G m ∨ StabG l T G (m + 1) ∨ (r ≤ cntG G m ∧ StabG l T G j)) (h1 : 1 ≤ j) (h2 : j ≤ m) (hin : inG l T G j l.length = false) :
    InvG l T (setG G j true) ∧ (r + 1 ≤ cntG (setG G j true) m ∨ StabG l T (setG G j true) (m + 1) ∨ (r ≤ cntG (setG G j true) m ∧ StabG l T (setG G j true) (j + 1))) := by
  cases h0 : G j with
  | true =>
    have e : setG G j true = G := by
      funext i; unfold setG; split
      · rename_i hi; rw [hi, h0]
      · rfl
    rw [e]
    refine ⟨hI, ?_⟩
    rcases hC with h | h | h
    · exact .inl h
    · exact .inr (.inl h)
    · exact .inr (.inr ⟨h.1, h.2.set (.inl h0)⟩)
  | false =>
    refine ⟨hI.set h0 hin, .inl ?_⟩
    rw [cntG_set h1 h0 m h2]
    rcases hC with h | h | h
    · omega
    · rw [h j h1 (by omega) h0] at hin; cases hin
    · omega

set_option maxHeartbeats 8000000 in
theorem l10Comes_any (n s : Int) (A : Option Addr) (cap : Nat) (es : List (Int × Int)) (w : World) (hes : EdgesIn w w.heap.size A es) (hok : stateOkB n es s = true) :
    Calls Try.prog 60 #[.agg #[.int .i64 n, .slice A es.length cap], .int .i64 s] w fun e w' => e = .returned (.bool (backV (endsL es) s.toNat)) ∧ Below w.heap.size w w' := by
  have hnet := stateOkB_net hok
  have h6 := (netOkB_iff.1 hnet).1
  have h9 := (netOkB_iff.1 hnet).2.1
  obtain ⟨m, rfl⟩ : ∃ m : Nat, n = m := ⟨n.toNat, by omega⟩
  obtain ⟨t, rfl, -, ht5⟩ := state_nat hok
  have HE : Hid (EdgesOk m (endsL es)) := by have := endsL_ok hnet; rwa [Int.toNat_natCast] at this
  have HLL := Lib.hid (endsL_length es)
  have HF : Hid (∀ e ∈ es, 1 ≤ e.1 ∧ e.1 < e.2 ∧ e.2 ≤ (m : Int)) := (netOkB_iff.1 hnet).2.2
  have hm6 : m ≤ 6 := by omega
  have hm1 : 1 ≤ m := by omega
  rw [Int.toNat_natCast]
  obtain ⟨T, hT⟩ : ∃ T : Nat → Bool, (fun i => t.testBit i) = T := ⟨_, rfl⟩
  have HT : Hid (∀ i, T i = t.testBit i) := fun i => by rw [← hT]
  obtain ⟨V, hV⟩ : ∃ V, backV (endsL es) t = V := ⟨_, rfl⟩
  have HB1 : Hid (∀ G v, StabG (endsL es) T G (m + 1) → 1 ≤ v → v ≤ m → G v = false → V = true) := fun G v h1 h2 h3 h4 => by rw [← hV]; exact stab_back HE.out (hT ▸ h1) h2 h3 h4
  have HB0 : Hid (∀ G, InvG (endsL es) T G → (∀ v, 1 ≤ v → v ≤ m → G v = true) → V = false) := fun G h1 h2 => by rw [← hV]; exact all_gone HE.out (hT ▸ h1) h2
  have HI0 := Lib.hid (InvG.start (endsL es) T)
  rw [hV]
  clear hV hT hok hnet h6
  have L0 := ArgNet.start (cap := cap) (n := m) 29 hes
  obtain ⟨_, _, c0, c1, s0⟩ := id L0
  obtain ⟨i0, hi0, hz0, hz1, hz2⟩ := info_parts truth_info
  have hwm : IntKind.i64.wrap ((m : Int) + 1) = ((m + 1 : Nat) : Int) := by rw [IntWalk.i64_in _ (by omega)]; omega
  clear hes
  go_enter Try.func60, Try.ntmps60
  go_wp2_with (at_make; refine wpList_make_full _ rfl _ _ 96 rfl (w.heap.size + 1) 4 i0 _ 1 Try.underlying96 hi0 hz0 hz1 .i64 .i64 (m + 1) (m + 1) (m + 1) rfl rfl rfl rfl (by rw [hz2]; omega) (by simp [maxLen]; omega) (by simp) ?_; intro w3 hown3 hg3)
  have hb3 : Below (w.heap.size + 1) (w.alloc (.cells #[.int .i64 (m : Nat), .slice A es.length cap] 29)) w3 := (Below.refl _ _).grown hg3 (by simp) (by simp)
  have O3 : OwnT w3 (w.heap.size + 1) (w.alloc (.cells #[.int .i64 (m : Nat), .slice A es.length cap] 29)).heap.size (m + 1) (m + 1) (fun _ => false) := by
    unfold OwnT; rw [← madeCells_truths]; exact hown3
  have L3 := L0.step hb3 (by omega)
  have gge : w.heap.size + 1 ≤ (w.alloc (.cells #[.int .i64 (m : Nat), .slice A es.length cap] 29)).heap.size := by simp
  clear c0 c1 s0 L0 hown3 hg3 hb3 hi0 hz0 hz1 hz2
  rw [World.size_alloc] at O3 gge
  obtain ⟨_, _, c0, c1, s0⟩ := id L3
  go_wp2_with fail
  go_loopw [6] (fun r wr => ∃ (k : Nat) (G : Nat → Bool), k ≤ m ∧ r = .int .i64 (k : Nat) ∧ OwnT wr (w.heap.size + 1) (w.heap.size + 1) (m + 1) (m + 1) G ∧ Hid (InvG (endsL es) T G) ∧ Hid (k ≤ cntG G m ∨ StabG (endsL es) T G (m + 1)) ∧ ArgNet w wr m A cap es) (fun r _ => m - (intOf r).toNat)
  case atStart => exact ⟨0, _, by omega, rfl, O3, HI0, .inl (by omega), L3⟩
  case round =>
    clear O3 L3 c0 c1 s0
    obtain ⟨r, G, hr, rfl, O, HI, HC, L⟩ := hrel
    obtain ⟨_, _, c0, c1, s0⟩ := id L
    by_cases hrm : r < m
    · have HC1 : Hid (r + 1 ≤ cntG G m ∨ StabG (endsL es) T G (m + 1) ∨ (r ≤ cntG G m ∧ StabG (endsL es) T G 1)) := by
        rcases HC.out with h | h
        · exact .inr (.inr ⟨h, fun v h1 h2 => by omega⟩)
        · exact .inr (.inl h)
      clear HC
      go_wp2_with fail
      go_loopw [7] (fun r7 wr => ∃ (j : Nat) (G : Nat → Bool), 1 ≤ j ∧ j ≤ m + 1 ∧ r7 = .int .i64 (j : Nat) ∧ OwnT wr (w.heap.size + 1) (w.heap.size + 1) (m + 1) (m + 1) G ∧ Hid (InvG (endsL es) T G) ∧ Hid (r + 1 ≤ cntG G m ∨ StabG (endsL es) T G (m + 1) ∨ (r ≤ cntG G m ∧ StabG (endsL es) T G j)) ∧ ArgNet w wr m A cap es) (fun r7 _ => m + 1 - (intOf r7).toNat)
      case atStart => exact ⟨1, G, by omega, by omega, rfl, O, HI, HC1, L⟩
      case round =>
        clear O L c0 c1 s0 HI HC1 G
        obtain ⟨j, G, hj1, hjm, rfl, O, HI, HC, L⟩ := hrel
        obtain ⟨_, _, c0, c1, s0⟩ := id L
        by_cases hjl : j ≤ m
        · have ij : (j : Int) ≤ (m : Int) := by omega
          go_wp2_with fail
          go_loopw [8, 9] (fun f i wr => ∃ k : Nat, k ≤ es.length ∧ i = .int .i64 (k : Nat) ∧ f = .bool (inG (endsL es) T G j k) ∧ OwnT wr (w.heap.size + 1) (w.heap.size + 1) (m + 1) (m + 1) G ∧ ArgNet w wr m A cap es) (fun _ i _ => es.length - (intOf i).toNat)
          case atStart => exact ⟨0, by omega, rfl, rfl, O, L⟩
          case round =>
            clear O L c0 c1 s0
            obtain ⟨k, hk, rfl, rfl, O, L⟩ := hrel
            obtain ⟨_, _, c0, c1, s0⟩ := id L
            by_cases hlk : k < es.length
            · obtain ⟨⟨a, b⟩, he⟩ : ∃ e, es[k]? = some e := ⟨_, List.getElem?_eq_getElem hlk⟩
              obtain ⟨g, off, rfl, hgb, g1, g2⟩ := L.edges k _ he
              have hfit := HE.out _ (List.mem_of_getElem? (endsL_at he))
              have hint := L.edges
              have HX := Lib.hid (inG_next (T := T) (G := G) (j := j) (endsL_at he))
              have hbit := bit_div t k
              rw [← HT.out] at hbit
              simp only [endN] at g1 g2 hfit
              have hab : 0 ≤ a ∧ 0 ≤ b := (show 0 ≤ a ∧ 0 ≤ b by have h1 := HF.out _ (List.mem_of_getElem? he); simp only at h1; omega)
              obtain ⟨a, rfl⟩ : ∃ a' : Nat, a = a' := ⟨a.toNat, by omega⟩
              obtain ⟨b, rfl⟩ : ∃ b' : Nat, b = b' := ⟨b.toNat, by omega⟩
              simp only [endN, Int.toNat_natCast] at HX hfit
              have k8 : k ≤ 8 := by omega
              clear he hint
              have ob1 := O.slot (k := a) (by omega)
              have ob2 := O.slot (k := b) (by omega)
              cases htk : T k with
              | false =>
                rw [htk] at HX hbit
                simp only [frE, toE, if_false, Bool.false_eq_true] at HX hbit
                clear htk
                cases hI : inG (endsL es) T G j k with
                | true =>
                  rw [hI, Bool.true_or] at HX
                  clear hI ob1 ob2
                  go_wp2_with fail
                  go_roundw
                  case rel => exact ⟨k + 1, by omega, by go_num, by rw [HX.out] <;> first | rfl | (simp; done), O, L⟩
                  case measure => simp [intOf]; omega
                | false =>
                  rw [hI, Bool.false_or] at HX
                  clear hI
                  by_cases hto : b = j
                  · rw [decide_eq_true hto, Bool.true_and] at HX
                    have y1 := ob1.1
                    have hto1 : (b : Int) = (j : Int) := by omega
                    have hto2 : ((b : Int) == (j : Int)) = true := beq_iff_eq.2 hto1
                    cases hG : G a with
                    | true =>
                      rw [hG] at HX y1
                      clear hG hto ob1 ob2
                      go_wp2_with fail
                      go_roundw
                      case rel => exact ⟨k + 1, by omega, by go_num, by rw [HX.out] <;> first | rfl | (simp; done), O, L⟩
                      case measure => simp [intOf]; omega
                    | false =>
                      rw [hG] at HX y1
                      clear hG hto ob1 ob2
                      go_wp2_with fail
                      go_roundw
                      case rel => exact ⟨k + 1, by omega, by go_num, by rw [HX.out] <;> first | rfl | (simp; done), O, L⟩
                      case measure => simp [intOf]; omega
                  · rw [decide_eq_false hto, Bool.false_and] at HX
                    have hto1 : ¬ (b : Int) = (j : Int) := by omega
                    have hto2 : ((b : Int) == (j : Int)) = false := beq_eq_false_iff_ne.2 hto1
                    clear hto ob1 ob2
                    go_wp2_with fail
                    go_roundw
                    case rel => exact ⟨k + 1, by omega, by go_num, by rw [HX.out] <;> first | rfl | (simp; done), O, L⟩
                    case measure => simp [intOf]; omega
              | true =>
                rw [htk] at HX hbit
                simp only [frE, toE, if_true] at HX hbit
                clear htk
                cases hI : inG (endsL es) T G j k with
                | true =>
                  rw [hI, Bool.true_or] at HX
                  clear hI ob1 ob2
                  go_wp2_with fail
                  go_roundw
                  case rel => exact ⟨k + 1, by omega, by go_num, by rw [HX.out] <;> first | rfl | (simp; done), O, L⟩
                  case measure => simp [intOf]; omega
                | false =>
                  rw [hI, Bool.false_or] at HX
                  clear hI
                  by_cases hto : a = j
                  · rw [decide_eq_true hto, Bool.true_and] at HX
                    have y1 := ob2.1
                    have hto1 : (a : Int) = (j : Int) := by omega
                    have hto2 : ((a : Int) == (j : Int)) = true := beq_iff_eq.2 hto1
                    cases hG : G b with
                    | true =>
                      rw [hG] at HX y1
                      clear hG hto ob1 ob2
                      go_wp2_with fail
                      go_roundw
                      case rel => exact ⟨k + 1, by omega, by go_num, by rw [HX.out] <;> first | rfl | (simp; done), O, L⟩
                      case measure => simp [intOf]; omega
                    | false =>
                      rw [hG] at HX y1
                      clear hG hto ob1 ob2
                      go_wp2_with fail
                      go_roundw
                      case rel => exact ⟨k + 1, by omega, by go_num, by rw [HX.out] <;> first | rfl | (simp; done), O, L⟩
                      case measure => simp [intOf]; omega
                  · rw [decide_eq_false hto, Bool.false_and] at HX
                    have hto1 : ¬ (a : Int) = (j : Int) := by omega
                    have hto2 : ((a : Int) == (j : Int)) = false := beq_eq_false_iff_ne.2 hto1
                    clear hto ob1 ob2
                    go_wp2_with fail
                    go_roundw
                    case rel => exact ⟨k + 1, by omega, by go_num, by rw [HX.out] <;> first | rfl | (simp; done), O, L⟩
                    case measure => simp [intOf]; omega
            · have hin := Lib.hid (inG_last (T := T) (G := G) (j := j) (show k = (endsL es).length by rw [HLL.out]; omega))
              obtain rfl : k = es.length := by omega
              cases hI : inG (endsL es) T G j es.length with
              | true =>
                have HC2 : Hid (r + 1 ≤ cntG G m ∨ StabG (endsL es) T G (m + 1) ∨ (r ≤ cntG G m ∧ StabG (endsL es) T G (j + 1))) := by
                  rcases HC.out with h | h | h
                  · exact .inl h
                  · exact .inr (.inl h)
                  · exact .inr (.inr ⟨h.1, h.2.set (.inr (hin.out ▸ hI))⟩)
                clear hI hin
                go_wp2_with fail
                go_roundw
                case rel => exact ⟨j + 1, G, by omega, by omega, by go_num, O, HI, HC2, L⟩
                case measure => simp [intOf]; omega
              | false =>
                have O5 := O.set j true
                have hI5 : Hid (InvG (endsL es) T (setG G j true) ∧ (r + 1 ≤ cntG (setG G j true) m ∨ StabG (endsL es) T (setG G j true) (m + 1) ∨ (r ≤ cntG (setG G j true) m ∧ StabG (endsL es) T (setG G j true) (j + 1)))) := comes_set HI.out HC.out hj1 hjl (hin.out ▸ hI)
                obtain ⟨y1, y2⟩ := O.slot (k := j) (by omega)
                clear hI hin O
                go_wp2_with fail
                go_roundw
                case rel => exact ⟨j + 1, setG G j true, by omega, by omega, by go_num, O5, hI5.out.1, hI5.out.2, L.step ((Below.refl (w.heap.size + 1) _).setCell (by simp) _) (by omega)⟩
                case measure => simp [intOf]; omega
        · obtain rfl : j = m + 1 := by omega
          have HC2 : Hid (r + 1 ≤ cntG G m ∨ StabG (endsL es) T G (m + 1)) := by
            rcases HC.out with h | h | h
            · exact .inl h
            · exact .inr h
            · exact .inr h.2
          have ij : ¬ ((m + 1 : Nat) : Int) ≤ (m : Int) := by omega
          go_wp2_with fail
          go_roundw
          case rel => exact ⟨r + 1, G, by omega, by go_num, O, HI, HC2, L⟩
          case measure => simp [intOf]; omega
    · obtain rfl : r = m := by omega
      have HST : Hid ((∀ v, 1 ≤ v → v ≤ r → G v = true) ∨ StabG (endsL es) T G (r + 1)) := by
        rcases HC.out with h | h
        · exact .inl (cntG_all r h)
        · exact .inr h
      clear HC
      go_wp2_with fail
      go_loopw [12] (fun i wr => ∃ k : Nat, 1 ≤ k ∧ k ≤ r + 1 ∧ i = .int .i64 (k : Nat) ∧ Hid (∀ v, 1 ≤ v → v < k → G v = true) ∧ ArgNet w wr r A cap es ∧ OwnT wr (w.heap.size + 1) (w.heap.size + 1) (r + 1) (r + 1) G) (fun i _ => r + 1 - (intOf i).toNat)
      case atStart => exact ⟨1, by omega, by omega, rfl, fun v h1 h2 => by omega, L, O⟩
      case round =>
        clear L O c0 c1 s0
        obtain ⟨k, hk1, hk2, rfl, HA, L, O⟩ := hrel
        obtain ⟨_, _, c0, c1, s0⟩ := id L
        by_cases hkl : k ≤ r
        · have ik : (k : Int) ≤ (r : Int) := by omega
          obtain ⟨y1, -⟩ := O.slot (k := k) (by omega)
          cases hG : G k with
          | true =>
            have HA2 : Hid (∀ v, 1 ≤ v → v < k + 1 → G v = true) := fun v h1 h2 => by
              by_cases e : v = k
              · rw [e]; exact hG
              · exact HA.out v h1 (by omega)
            rw [hG] at y1
            clear hG
            go_wp2_with fail
            go_roundw
            case rel => exact ⟨k + 1, by omega, by omega, by go_num, HA2, L, O⟩
            case measure => simp [intOf]; omega
          | false =>
            have hVt : V = true := by
              rcases HST.out with h | h
              · rw [h k hk1 hkl] at hG; cases hG
              · exact HB1.out G k h hk1 hkl hG
            rw [hG] at y1
            subst hVt
            clear hG
            go_wp2_with fail
            go_returns
            exact ⟨by first | rfl | simp, L.below⟩
        · obtain rfl : k = r + 1 := by omega
          have hVf : V = false := HB0.out G HI.out fun v h1 h2 => HA.out v h1 (by omega)
          subst hVf
          have ik : ¬ ((r + 1 : Nat) : Int) ≤ (r : Int) := by omega
          go_wp2_with fail
          go_returns
          exact ⟨by first | rfl | simp, L.below⟩

noncomputable def noBackQ (es : List (Int × Int)) (s : Nat) : Bool := !backV (endsL es) s
noncomputable def noBackI (n : Int) (es : List (Int × Int)) : Int := if netOkB n es = true then ((cP (noBackQ es) (2 ^ es.length) : Nat) : Int) else -1
theorem noBackI_ok {n : Int} {es : List (Int × Int)} (h : netOkB n es = true) : noBackI n es = ((acyN (fun x => x) (endsL es) : Nat) : Int) := by
  unfold noBackI
  rw [if_pos h, acy_states, endsL_length]; rfl

set_option maxHeartbeats 2000000 in
theorem specCountNoBack_any (n : Int) (A : Option Addr) (cap : Nat) (es : List (Int × Int)) (w : World) (hes : EdgesIn w w.heap.size A es) (hl : es.length ≤ 1048576) :
    Calls Try.prog 16 #[.agg #[.int .i64 n, .slice A es.length cap]] w fun e w' => e = .returned (.int .i64 (noBackI n es)) ∧ Below w.heap.size w w' := by
  have L0 := ArgNet.start (cap := cap) (n := n) 29 hes
  have HN : Hid (∀ u, ArgNet w u n A cap es → Calls Try.prog 52 #[.agg #[.int .i64 n, .slice A es.length cap]] u fun e w' => e = .returned (.bool (netOkB n es)) ∧ Below u.heap.size u w') := fun u h => specNetOk_any n A cap es u h.edges hl
  obtain ⟨_, _, c0, c1, s0⟩ := id L0
  cases hn : netOkB n es with
  | false =>
    have HV : Hid (noBackI n es = -1) := if_neg (by rw [hn]; simp)
    rw [HV.out]
    rw [hn] at HN
    clear hes hn
    go_enter Try.func16, Try.ntmps16
    go_wp2_with fail
    refine (HN.out _ L0).mono ?_
    rintro e1 w1 ⟨rfl, hb1⟩
    have L1 := L0.step hb1 L0.lt
    go_wp2_with fail
    go_returns
    exact ⟨by first | rfl | simp, L1.below⟩
  | true =>
    have h9 := (netOkB_iff.1 hn).2.1
    obtain ⟨P, hP, p1, p2, hp3, hp4⟩ := pow_named h9
    obtain ⟨q, hq⟩ : ∃ q, noBackQ es = q := ⟨_, rfl⟩
    have HQ : Hid (∀ s : Nat, (!backV (endsL es) s) = q s) := fun s => by rw [← hq]; rfl
    have HV : Hid (noBackI n es = ((cP q P : Nat) : Int)) := by unfold Hid noBackI; rw [if_pos hn, hP, hq]
    have HC : Hid (∀ (s : Nat) (u : World), s < P → ArgNet w u n A cap es → Calls Try.prog 60 #[.agg #[.int .i64 n, .slice A es.length cap], .int .i64 s] u fun e w' => e = .returned (.bool (backV (endsL es) s)) ∧ Below u.heap.size u w') := fun s u hs h =>
      l10Comes_any n s A cap es u h.edges (state_of hn (by rw [hP]; exact hs))
    rw [HV.out]
    rw [hn] at HN
    clear hes hn hq hP HV
    go_enter Try.func16, Try.ntmps16
    go_wp2_with fail
    refine (HN.out _ L0).mono ?_
    rintro e1 w1 ⟨rfl, hb1⟩
    have L1 := L0.step hb1 L0.lt
    clear c0 c1 s0
    obtain ⟨_, _, c0, c1, s0⟩ := id L1
    go_wp2_with fail
    go_loopw [3, 4] (fun v i wr => ∃ s : Nat, s ≤ P ∧ i = .int .i64 (s : Nat) ∧ v = .int .i64 (cP q s : Nat) ∧ ArgNet w wr n A cap es) (fun _ i _ => P - (intOf i).toNat)
    case atStart => exact ⟨0, by omega, rfl, rfl, L1⟩
    case round =>
      clear L1 L0 c0 c1 s0 hb1
      obtain ⟨s, hs, rfl, rfl, L1⟩ := hrel
      obtain ⟨_, _, c0, c1, s0⟩ := id L1
      by_cases hlt : s < P
      · have hz := cP_le q s
        have hcall : Hid (∀ u, ArgNet w u n A cap es → Calls Try.prog 60 #[.agg #[.int .i64 n, .slice A es.length cap], .int .i64 s] u fun e w' => e = .returned (.bool (!q s)) ∧ Below u.heap.size u w') := fun u h => by
          rw [← HQ.out s, Bool.not_not]; exact HC.out s u hlt h
        cases hv : q s with
        | true =>
          have hnx := Lib.hid (cP_hit hv)
          rw [hv] at hcall
          generalize cP q s = z at *
          clear hv
          go_wp2_with fail
          refine (hcall.out _ L1).mono ?_
          rintro e2 w2 ⟨rfl, hb2⟩
          have L2 := L1.step hb2 L1.lt
          clear c0 c1 s0
          go_wp2_with fail
          go_roundw
          case rel => exact ⟨s + 1, by omega, by go_num, by rw [hnx.out]; go_num, L2⟩
          case measure => simp [intOf]; omega
        | false =>
          have hnx := Lib.hid (cP_miss hv)
          rw [hv] at hcall
          generalize cP q s = z at *
          clear hv
          go_wp2_with fail
          refine (hcall.out _ L1).mono ?_
          rintro e2 w2 ⟨rfl, hb2⟩
          have L2 := L1.step hb2 L1.lt
          clear c0 c1 s0
          go_wp2_with fail
          go_roundw
          case rel => exact ⟨s + 1, by omega, by go_num, by rw [hnx.out], L2⟩
          case measure => simp [intOf]; omega
      · obtain rfl : s = P := by omega
        go_wp2_with fail
        go_returns
        exact ⟨rfl, L1.below⟩
end Go.Proofs.Ytdacfeebidhgnaa
