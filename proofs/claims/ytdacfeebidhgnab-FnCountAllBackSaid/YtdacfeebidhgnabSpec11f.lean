/- Chapter 11 of the reference: CountAllBack. -/
import Derived.Test.YtdacfeebidhgnabFar
import Derived.Test.YtdacfeebidhgnabSpec10c
namespace Go.Proofs.Ytdacfeebidhgnab
open Go.RowKit
set_option maxRecDepth 100000

theorem cntG_zero {G : Nat → Bool} (h : ∀ v, G v = false) : ∀ m, cntG G m = 0
  | 0 => rfl
  | m + 1 => by simp only [cntG, cntG_zero h m, h]; rfl

set_option maxHeartbeats 8000000 in
theorem l11Leads_any (n : Int) (s x y : Nat) (A : Option Addr) (cap : Nat) (es : List (Int × Int)) (w : World) (hes : EdgesIn w w.heap.size A es) (hnet : netOkB n es = true) (_ht5 : s < 512) (hx1 : 1 ≤ x) (hx2 : x ≤ n.toNat) (hy2 : y ≤ n.toNat) :
    Calls Try.prog 93 #[.agg #[.int .i64 n, .slice A es.length cap], .int .i64 (s : Nat), .int .i64 (x : Nat), .int .i64 (y : Nat)] w fun e w' => e = .returned (.bool (leadsB (endsL es) (fun i => s.testBit i) x y)) ∧ Below w.heap.size w w' := by
  have h6 := (netOkB_iff.1 hnet).1
  have h9 := (netOkB_iff.1 hnet).2.1
  obtain ⟨m, rfl⟩ : ∃ m : Nat, n = m := ⟨n.toNat, by omega⟩
  rw [Int.toNat_natCast] at hx2 hy2
  have HE : Hid (EdgesOk m (endsL es)) := by have := endsL_ok hnet; rwa [Int.toNat_natCast] at this
  have HLL := Lib.hid (endsL_length es)
  have HF : Hid (∀ e ∈ es, 1 ≤ e.1 ∧ e.1 < e.2 ∧ e.2 ≤ (m : Int)) := (netOkB_iff.1 hnet).2.2
  have hm6 : m ≤ 6 := by omega
  have hm1 : 1 ≤ m := by omega
  obtain ⟨T, hT⟩ : ∃ T : Nat → Bool, (fun i => s.testBit i) = T := ⟨_, rfl⟩
  have HT : Hid (∀ i, T i = s.testBit i) := fun i => by rw [← hT]
  rw [hT]
  obtain ⟨V, hV⟩ : ∃ V, leadsB (endsL es) T x y = V := ⟨_, rfl⟩
  have HV : Hid (∀ G, SoundG (endsL es) T x G → (m + 1 ≤ cntG G m ∨ closL (endsL es) T G) → G x = true → G y = V) := fun G h1 h2 h3 => by
    rw [← hV]
    refine leadsB_is h1 ?_ h3 y
    rcases h2 with h | h
    · have := cntG_le G m; omega
    · exact h
  rw [hV]
  clear hV hT hnet h6
  have L0 := ArgNet.start (cap := cap) (n := m) 25 hes
  obtain ⟨_, _, c0, c1, s0⟩ := id L0
  obtain ⟨i0, hi0, hz0, hz1, hz2⟩ := info_parts truth_info
  have ix : (x : Int) < (m : Int) + 1 := by omega
  have hwm : IntKind.i64.wrap ((m : Int) + 1) = ((m + 1 : Nat) : Int) := by rw [IntWalk.i64_in _ (by omega)]; omega
  clear hes
  go_enter Try.func93, Try.ntmps93
  go_wp2_with (at_make; refine wpList_make_full _ rfl _ _ 113 rfl (w.heap.size + 1) 4 i0 _ 1 Try.underlying113 hi0 hz0 hz1 .i64 .i64 (m + 1) (m + 1) (m + 1) rfl rfl rfl rfl (by rw [hz2]; omega) (by simp [maxLen]; omega) (by simp) ?_; intro w3 hown3 hg3; have hb3 : Below (w.heap.size + 1) (w.alloc (.cells #[.int .i64 (m : Nat), .slice A es.length cap] 25)) w3 := ((Below.refl _ _).grown hg3 (by simp) (by simp)); have O3 : OwnT w3 (w.heap.size + 1) (w.alloc (.cells #[.int .i64 (m : Nat), .slice A es.length cap] 25)).heap.size (m + 1) (m + 1) (fun _ => false) := (by unfold OwnT; rw [← madeCells_truths]; exact hown3); have L3 := L0.step hb3 (by omega); rw [World.size_alloc] at O3; clear c0 c1 s0; have c0 := L3.c0; have c1 := L3.c1; obtain ⟨ob1, of1⟩ := O3.slot (k := x) (by omega))
  clear hown3 hg3 hb3 L0 hi0 hz0 hz1 hz2
  have O4 := O3.set x true
  have L4 : ArgNet w (w3.setCell ⟨w.heap.size + 1, x, none⟩ (.bool true)) m A cap es := L3.step ((Below.refl (w.heap.size + 1) w3).setCell (by simp) _) (by omega)
  have HS0 : Hid (SoundG (endsL es) T x (setG (fun _ => false) x true)) := fun v hv => by
    unfold setG at hv
    by_cases e : v = x
    · rw [e]; exact .refl
    · rw [if_neg e] at hv; cases hv
  have HX0 : Hid (setG (fun _ => false) x true x = true) := by unfold Hid setG; rw [if_pos rfl]
  have HC0 : Hid (0 + 1 ≤ cntG (setG (fun _ => false) x true) m) := cntG_one hx1 HX0.out m hx2
  clear O3 L3 c0 c1 ob1 of1
  go_loopw [10] (fun r wr => ∃ (k : Nat) (G : Nat → Bool), k ≤ m ∧ r = .int .i64 (k : Nat) ∧ OwnT wr (w.heap.size + 1) (w.heap.size + 1) (m + 1) (m + 1) G ∧ Hid (SoundG (endsL es) T x G) ∧ Hid (k + 1 ≤ cntG G m ∨ closL (endsL es) T G) ∧ Hid (G x = true) ∧ ArgNet w wr m A cap es) (fun r _ => m - (intOf r).toNat)
  case atStart => exact ⟨0, _, by omega, rfl, O4, HS0, .inl HC0.out, HX0, L4⟩
  case round =>
    clear O4 L4 HS0 HX0 HC0
    obtain ⟨r, G, hr, rfl, O, HI, HC, HX, L⟩ := hrel
    obtain ⟨_, _, c0, c1, s0⟩ := id L
    by_cases hrm : r < m
    · have HC1 : Hid (r + 2 ≤ cntG G m ∨ closL (endsL es) T G ∨ (r + 1 ≤ cntG G m ∧ HandL (endsL es) T G 0)) := by
        rcases HC.out with h | h
        · exact .inr (.inr ⟨h, fun k e hk => by omega⟩)
        · exact .inr (.inl h)
      clear HC
      go_wp2_with fail
      go_loopw [11] (fun r7 wr => ∃ (j : Nat) (G : Nat → Bool), j ≤ es.length ∧ r7 = .int .i64 (j : Nat) ∧ OwnT wr (w.heap.size + 1) (w.heap.size + 1) (m + 1) (m + 1) G ∧ Hid (SoundG (endsL es) T x G) ∧ Hid (r + 2 ≤ cntG G m ∨ closL (endsL es) T G ∨ (r + 1 ≤ cntG G m ∧ HandL (endsL es) T G j)) ∧ Hid (G x = true) ∧ ArgNet w wr m A cap es) (fun r7 _ => es.length - (intOf r7).toNat)
      case atStart => exact ⟨0, G, by omega, rfl, O, HI, HC1, HX, L⟩
      case round =>
        clear O L c0 c1 s0 HI HC1 HX G
        obtain ⟨k, G, hk, rfl, O, HI, HC, HX, L⟩ := hrel
        obtain ⟨_, _, c0, c1, s0⟩ := id L
        by_cases hlk : k < es.length
        · obtain ⟨⟨a, b⟩, he⟩ : ∃ e, es[k]? = some e := ⟨_, List.getElem?_eq_getElem hlk⟩
          obtain ⟨g, off, rfl, hgb, g1, g2⟩ := L.edges k _ he
          have hfit := HE.out _ (List.mem_of_getElem? (endsL_at he))
          have hel := endsL_at he
          have hbit := bit_div s k
          rw [← HT.out] at hbit
          simp only [endN] at g1 g2 hfit hel
          have hab : 0 ≤ a ∧ 0 ≤ b := (show 0 ≤ a ∧ 0 ≤ b by have h1 := HF.out _ (List.mem_of_getElem? he); simp only at h1; omega)
          obtain ⟨a, rfl⟩ : ∃ a' : Nat, a = a' := ⟨a.toNat, by omega⟩
          obtain ⟨b, rfl⟩ : ∃ b' : Nat, b = b' := ⟨b.toNat, by omega⟩
          simp only [Int.toNat_natCast] at hfit hel
          have k8 : k ≤ 8 := by omega
          have hlen : k + 1 ≤ es.length := hlk
          clear he
          obtain ⟨ob1, of1⟩ := O.slot (k := a) (by omega)
          obtain ⟨ob2, of2⟩ := O.slot (k := b) (by omega)
          have ia : (a : Int) < (m : Int) + 1 := by omega
          have ib : (b : Int) < (m : Int) + 1 := by omega
          cases htk : T k with
          | false =>
            have HFR : Hid (frE (a, b) (T k) = a) := by unfold Hid; rw [htk]; rfl
            have HTO : Hid (toE (a, b) (T k) = b) := by unfold Hid; rw [htk]; rfl
            rw [htk, if_neg (by simp)] at hbit
            clear htk
            cases hI : G a with
            | true =>
              have HC2 := hand_step HC.out hel (by rw [HTO.out]; omega) (by rw [HTO.out]; omega) (by rw [HFR.out]; exact hI)
              have HI2 := SoundG.set HI.out hel (by rw [HFR.out]; exact hI)
              rw [HTO.out] at HC2 HI2
              have HX2 : Hid (setG G b true x = true) := by unfold Hid setG; split; exact rfl; exact HX.out
              have HC3 := Lib.hid HC2
              have HI3 := Lib.hid HI2
              have O2 := O.set b true
              rw [hI] at ob1
              clear hI HC2 HI2 HC HI HX HFR HTO hel hfit
              go_wp2_with fail
              go_roundw
              case rel => exact ⟨k + 1, _, by omega, by go_num, O2, HI3, HC3, HX2, L.step ((Below.refl (w.heap.size + 1) _).setCell (by simp) _) (by omega)⟩
              case measure => simp [intOf]; omega
            | false =>
              have HC2 := Lib.hid (hand_skip HC.out hel (by rw [HFR.out]; exact hI))
              rw [hI] at ob1
              clear hI HC HFR HTO hel hfit
              go_wp2_with fail
              go_roundw
              case rel => exact ⟨k + 1, G, by omega, by go_num, O, HI, HC2, HX, L⟩
              case measure => simp [intOf]; omega
          | true =>
            have HFR : Hid (frE (a, b) (T k) = b) := by unfold Hid; rw [htk]; rfl
            have HTO : Hid (toE (a, b) (T k) = a) := by unfold Hid; rw [htk]; rfl
            rw [htk, if_pos rfl] at hbit
            clear htk
            cases hI : G b with
            | true =>
              have HC2 := hand_step HC.out hel (by rw [HTO.out]; omega) (by rw [HTO.out]; omega) (by rw [HFR.out]; exact hI)
              have HI2 := SoundG.set HI.out hel (by rw [HFR.out]; exact hI)
              rw [HTO.out] at HC2 HI2
              have HX2 : Hid (setG G a true x = true) := by unfold Hid setG; split; exact rfl; exact HX.out
              have HC3 := Lib.hid HC2
              have HI3 := Lib.hid HI2
              have O2 := O.set a true
              rw [hI] at ob2
              clear hI HC2 HI2 HC HI HX HFR HTO hel hfit
              go_wp2_with fail
              go_roundw
              case rel => exact ⟨k + 1, _, by omega, by go_num, O2, HI3, HC3, HX2, L.step ((Below.refl (w.heap.size + 1) _).setCell (by simp) _) (by omega)⟩
              case measure => simp [intOf]; omega
            | false =>
              have HC2 := Lib.hid (hand_skip HC.out hel (by rw [HFR.out]; exact hI))
              rw [hI] at ob2
              clear hI HC HFR HTO hel hfit
              go_wp2_with fail
              go_roundw
              case rel => exact ⟨k + 1, G, by omega, by go_num, O, HI, HC2, HX, L⟩
              case measure => simp [intOf]; omega
        · obtain rfl : k = es.length := by omega
          have HC2 : Hid (r + 1 + 1 ≤ cntG G m ∨ closL (endsL es) T G) := by
            rcases HC.out with h | h | ⟨_, h⟩
            · exact .inl h
            · exact .inr h
            · exact .inr (hand_clos (HLL.out.symm ▸ h))
          clear HC
          go_wp2_with fail
          go_roundw
          case rel => exact ⟨r + 1, G, by omega, by go_num, O, HI, HC2, HX, L⟩
          case measure => simp [intOf]; omega
    · obtain rfl : r = m := by omega
      have HY := Lib.hid (HV.out G HI.out HC.out HX.out)
      obtain ⟨ob1, of1⟩ := O.slot (k := y) (by omega)
      have iy : (y : Int) < (r : Int) + 1 := by omega
      rw [HY.out] at ob1
      clear HC HI HV
      go_wp2_with fail
      go_returns
      exact ⟨by first | rfl | simp, L.below⟩

noncomputable def allBackQ (es : List (Int × Int)) (s : Nat) : Bool := tcB (fun x => x) (endsL es) fun i => s.testBit i
noncomputable def allBackI (n : Int) (es : List (Int × Int)) : Int := if netOkB n es = true then ((cP (allBackQ es) (2 ^ es.length) : Nat) : Int) else -1
/-- Told one edge after the other. -/
theorem allBack_iff {es : List (Int × Int)} {s : Nat} : allBackQ es s = true ↔ ∀ k, k < es.length → ∀ e, (endsL es)[k]? = some e → leadsB (endsL es) (fun i => s.testBit i) (toE e (s.testBit k)) (frE e (s.testBit k)) = true := by
  unfold allBackQ
  rw [tcB_iff, tc_leads]
  constructor
  · intro h k _ e he
    exact leadsB_iff.2 (h k e he)
  · intro h k e he
    have hk := (List.getElem?_eq_some_iff.1 he).1
    rw [endsL_length] at hk
    exact leadsB_iff.1 (h k hk e he)

set_option maxHeartbeats 8000000 in
theorem specCountAllBack_any (n : Int) (A : Option Addr) (cap : Nat) (es : List (Int × Int)) (w : World) (hes : EdgesIn w w.heap.size A es) (hl : es.length ≤ 1048576) :
    Calls Try.prog 30 #[.agg #[.int .i64 n, .slice A es.length cap]] w fun e w' => e = .returned (.int .i64 (allBackI n es)) ∧ Below w.heap.size w w' := by
  have L0 := ArgNet.start (cap := cap) (n := n) 25 hes
  have HN : Hid (∀ u, ArgNet w u n A cap es → Calls Try.prog 34 #[.agg #[.int .i64 n, .slice A es.length cap]] u fun e w' => e = .returned (.bool (netOkB n es)) ∧ Below u.heap.size u w') := fun u h => specNetOk_any n A cap es u h.edges hl
  obtain ⟨_, _, c0, c1, s0⟩ := id L0
  cases hn : netOkB n es with
  | false =>
    have HV : Hid (allBackI n es = -1) := if_neg (by rw [hn]; simp)
    rw [HV.out]
    rw [hn] at HN
    clear hes hn
    go_enter Try.func30, Try.ntmps30
    go_wp2_with fail
    refine (HN.out _ L0).mono ?_
    rintro e1 w1 ⟨rfl, hb1⟩
    have L1 := L0.step hb1 L0.lt
    go_wp2_with fail
    go_returns
    exact ⟨by first | rfl | simp, L1.below⟩
  | true =>
    have h9 := (netOkB_iff.1 hn).2.1
    have h26 := (netOkB_iff.1 hn).1
    have HE : Hid (∀ k (hk : k < es.length), ∃ a b : Nat, es[k]? = some ((a : Int), (b : Int)) ∧ (endsL es)[k]? = some (a, b) ∧ (1 ≤ a ∧ a ≤ n.toNat) ∧ (1 ≤ b ∧ b ≤ n.toNat)) := fun k hk => by
      obtain ⟨a, b, he, hE, ha1, hb1, ha7, hb7, han, hbn⟩ := fits_ends hn hk
      exact ⟨a, b, by rw [List.getElem?_eq_getElem hk, he], by rw [endsL_at (List.getElem?_eq_getElem hk), he]; simp [endN], ⟨ha1, han⟩, hb1, hbn⟩
    have HC : Hid (∀ (s x y : Nat) (u : World), s < 512 → (1 ≤ x ∧ x ≤ n.toNat) → y ≤ n.toNat → ArgNet w u n A cap es → Calls Try.prog 93 #[.agg #[.int .i64 n, .slice A es.length cap], .int .i64 (s : Nat), .int .i64 (x : Nat), .int .i64 (y : Nat)] u fun e w' => e = .returned (.bool (leadsB (endsL es) (fun i => s.testBit i) x y)) ∧ Below u.heap.size u w') := fun s x y u hs hx hy h =>
      l11Leads_any n s x y A cap es u h.edges hn hs hx.1 hx.2 hy
    have HV : Hid (allBackI n es = ((cP (allBackQ es) (2 ^ es.length) : Nat) : Int)) := if_pos hn
    have HQ : Hid (∀ s, allBackQ es s = true ↔ ∀ k, k < es.length → ∀ e, (endsL es)[k]? = some e → leadsB (endsL es) (fun i => s.testBit i) (toE e (s.testBit k)) (frE e (s.testBit k)) = true) := fun s => allBack_iff
    obtain ⟨P, hP, p1, p2, hp3, hp4⟩ := pow_named h9
    obtain ⟨q, hq⟩ : ∃ q, allBackQ es = q := ⟨_, rfl⟩
    rw [hP, hq] at HV
    rw [hq] at HQ
    rw [HV.out]
    rw [hn] at HN
    clear hes hn hq hP HV
    go_enter Try.func30, Try.ntmps30
    go_wp2_with fail
    refine (HN.out _ L0).mono ?_
    rintro e1 w1 ⟨rfl, hb1⟩
    have L1 := L0.step hb1 L0.lt
    clear c0 c1 s0 L0 HN hb1
    obtain ⟨_, _, c0, c1, s0⟩ := id L1
    go_wp2_with fail
    go_loopw [3, 4] (fun v i wr => ∃ s : Nat, s ≤ P ∧ i = .int .i64 (s : Nat) ∧ v = .int .i64 (cP q s : Nat) ∧ ArgNet w wr n A cap es) (fun _ i _ => P - (intOf i).toNat)
    case atStart => exact ⟨0, by omega, rfl, rfl, L1⟩
    case round =>
      clear L1 c0 c1 s0
      obtain ⟨s, hs, rfl, rfl, L1⟩ := hrel
      obtain ⟨_, _, c0, c1, s0⟩ := id L1
      by_cases hlt : s < P
      · have hz := cP_le q s
        have HQ1 := Lib.hid (HQ.out s)
        have hit : Hid (q s = true → cP q (s + 1) = cP q s + 1) := cP_hit
        have miss : Hid (q s = false → cP q (s + 1) = cP q s) := cP_miss
        obtain ⟨Z, hZ⟩ : ∃ Z, cP q (s + 1) = Z := ⟨_, rfl⟩
        rw [hZ] at hit miss
        have HZ := Lib.hid hZ
        clear hZ
        have hs5 : s < 512 := by omega
        have hsP : Hid (s < P) := hlt
        generalize cP q s = z at *
        go_wp2_with fail
        go_loopw [5, 6] (fun f i wr => ∃ (k : Nat) (b : Bool), k ≤ es.length ∧ i = .int .i64 (k : Nat) ∧ f = .bool b ∧ Hid (b = true ↔ ∀ i, i < k → ∀ e, (endsL es)[i]? = some e → leadsB (endsL es) (fun i => s.testBit i) (toE e (s.testBit i)) (frE e (s.testBit i)) = true) ∧ ArgNet w wr n A cap es) (fun _ i _ => es.length - (intOf i).toNat)
        case atStart => exact ⟨0, true, by omega, rfl, rfl, ⟨fun _ i hi => by omega, fun _ => rfl⟩, L1⟩
        case round =>
          clear L1 c0 c1 s0
          obtain ⟨k, b, hk, rfl, rfl, HB, L1⟩ := hrel
          obtain ⟨_, _, c0, c1, s0⟩ := id L1
          by_cases hlk : k < es.length
          · cases b with
            | false =>
              have hqs : q s = false := by
                cases hq : q s with
                | false => rfl
                | true => exact absurd (HB.out.2 fun i hi e he => HQ1.out.1 hq i (by omega) e he) (by simp)
              have HM := Lib.hid (miss.out hqs)
              clear HB HQ1 hit miss hqs
              go_wp2_with fail
              go_roundw
              case rel => exact ⟨s + 1, by omega, by go_num, by rw [HZ.out, HM.out], L1⟩
              case measure => simp [intOf]; omega
            | true =>
              obtain ⟨a, b, he, hel, ha, hb⟩ := HE.out k hlk
              obtain ⟨g, off, rfl, hgb, g1, g2⟩ := L1.edges k _ he
              simp only at g1 g2
              have hbit := bit_div s k
              have k8 : k ≤ 8 := by omega
              have hlen : k + 1 ≤ es.length := hlk
              have HB2 : Hid (∀ v, leadsB (endsL es) (fun i => s.testBit i) (toE (a, b) (s.testBit k)) (frE (a, b) (s.testBit k)) = v → (v = true ↔ ∀ i, i < k + 1 → ∀ e, (endsL es)[i]? = some e → leadsB (endsL es) (fun i => s.testBit i) (toE e (s.testBit i)) (frE e (s.testBit i)) = true)) := fun v hv => by
                subst hv
                constructor
                · intro h i hi e hie
                  by_cases e' : i = k
                  · subst e'; rw [hel] at hie; obtain rfl := Option.some.inj hie; exact h
                  · exact HB.out.1 rfl i (by omega) e hie
                · intro h; exact h k (by omega) _ hel
              clear he HB hel HQ1 hit miss
              cases hb' : s.testBit k with
              | false =>
                have hc := Lib.hid (HC.out s b a wr hs5 hb ha.2 L1)
                rw [hb'] at hbit HB2
                rw [if_neg (by simp)] at hbit
                have HB3 := Lib.hid (HB2.out _ rfl)
                simp only [toE, frE, if_false, Bool.false_eq_true] at HB3
                clear hb' HB2
                generalize leadsB (endsL es) (fun i => s.testBit i) b a = v at *
                go_wp2_with fail
                refine hc.out.mono ?_
                rintro e2 w2 ⟨rfl, hb2⟩
                have L2 := L1.on _ hb2
                go_wp2_with fail
                go_roundw
                case rel => exact ⟨k + 1, v, by omega, by go_num, rfl, HB3, L2⟩
                case measure => simp [intOf]; omega
              | true =>
                have hc := Lib.hid (HC.out s a b wr hs5 ha hb.2 L1)
                rw [hb'] at hbit HB2
                rw [if_pos rfl] at hbit
                have HB3 := Lib.hid (HB2.out _ rfl)
                simp only [toE, frE, if_true] at HB3
                clear hb' HB2
                generalize leadsB (endsL es) (fun i => s.testBit i) a b = v at *
                go_wp2_with fail
                refine hc.out.mono ?_
                rintro e2 w2 ⟨rfl, hb2⟩
                have L2 := L1.on _ hb2
                go_wp2_with fail
                go_roundw
                case rel => exact ⟨k + 1, v, by omega, by go_num, rfl, HB3, L2⟩
                case measure => simp [intOf]; omega
          · obtain rfl : k = es.length := by omega
            have hqb : q s = b := by
              rw [Bool.eq_iff_iff, HQ1.out, HB.out]
            cases b with
            | false =>
              have HM := Lib.hid (miss.out hqb)
              clear HB HQ1 hit miss hqb
              go_wp2_with fail
              go_roundw
              case rel => exact ⟨s + 1, by omega, by go_num, by rw [HZ.out, HM.out], L1⟩
              case measure => simp [intOf]; omega
            | true =>
              have HM := Lib.hid (hit.out hqb)
              clear HB HQ1 hit miss hqb
              go_wp2_with fail
              go_roundw
              case rel => exact ⟨s + 1, by omega, by go_num, by rw [HZ.out, HM.out]; go_num, L1⟩
              case measure => simp [intOf]; omega
      · obtain rfl : s = P := by omega
        go_wp2_with fail
        go_returns
        exact ⟨rfl, L1.below⟩
end Go.Proofs.Ytdacfeebidhgnab
