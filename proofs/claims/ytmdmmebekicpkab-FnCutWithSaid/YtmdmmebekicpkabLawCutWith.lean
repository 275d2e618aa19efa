/- The law FnCutWith holds of every code: with any edge of the cut instead of the edge it is a tree; rings and cuts meet in twos. -/
import Derived.Test.YtmdmmebekicpkabBytes
import Derived.Test.YtmdmmebekicpkabDrawTreed
import Derived.Test.YtmdmmebekicpkabTreeL
import Derived.Test.YtmdmmebekicpkabMore2
import Derived.Test.YtmdmmebekicpkabClass
namespace Go.Proofs.Ytmdmmebekicpkab
open Go.RowKit
set_option maxRecDepth 100000

set_option maxHeartbeats 8000000 in
theorem cutWith_law (A : Option Addr) (cap l : Nat) (w : World) (hb : BytesIn w w.heap.size A l) (hc : l ≤ cap) :
    Calls Try.prog 12 #[.slice A l cap] w fun e w' => e = .returned (.bool true) ∧ Below w.heap.size w w' := by
  by_cases hbig : 1048576 < l
  · go_enter Try.func12, Try.ntmps12
    go_wp2
    go_returns
    exact ⟨rfl, Below.refl _ _⟩
  have hl : l ≤ 1048576 := by omega
  clear hbig
  go_enter Try.func12, Try.ntmps12
  go_wp2_with fail
  refine (drawCutWith_any _ _ _ _ hb hl hc).mono ?_
  rintro e1 w1 ⟨n, A1, c, es, s, a, rfl, own, n1, n7, hle, sl, sh, al, ah, hb1⟩
  have L1 := ArgNet.start (cap := c) (n := n) 25 own.edges
  have HB := Lib.hid hb1
  have hle' : es.length ≤ 1048576 := by omega
  have s1 := hb1.size
  clear own hb hb1 hl hc
  obtain ⟨ok, hok⟩ : ∃ ok, cutOk n es s a = ok := ⟨_, rfl⟩
  obtain ⟨z, hz⟩ : ∃ z, cutI n es s a = z := ⟨_, rfl⟩
  have HI : Hid (∀ (u : World), ArgNet w1 u n A1 c es → Calls Try.prog 44 #[.agg #[.int .i64 n, .slice A1 es.length c], .int .i64 s, .int .i64 a] u fun e w' => e = .returned (.tuple #[.int .i64 z, .bool ok]) ∧ Below u.heap.size u w') := fun u h => by rw [← hok, ← hz]; exact cutWith_any n s a A1 c es u h.edges hle'
  have HS : Hid (∀ (u : World), ArgNet w1 u n A1 c es → Calls Try.prog 43 #[.agg #[.int .i64 n, .slice A1 es.length c], .int .i64 s, .int .i64 a] u fun e w' => e = .returned (.tuple #[.int .i64 z, .bool ok]) ∧ Below u.heap.size u w') := fun u h => by rw [← hok, ← hz]; exact specCutWith_any n s a A1 c es u h.edges hle'
  obtain ⟨_, _, c0, c1, s0⟩ := id L1
  go_wp2_with fail
  refine (HI.out _ L1).mono ?_
  rintro e2 w2 ⟨rfl, hb2⟩
  have L2 := L1.on _ hb2
  clear hb2 c0 c1 s0 L1
  obtain ⟨_, _, c0, c1, s0⟩ := id L2
  go_wp2_with fail
  refine (HS.out _ L2).mono ?_
  rintro e3 w3 ⟨rfl, hb3⟩
  have L3 := L2.on _ hb3
  clear hb3 c0 c1 s0 L2 HI HS
  obtain ⟨_, _, c0, c1, s0⟩ := id L3
  cases ok with
  | false =>
    obtain rfl : z = -1 := by rw [← hz]; unfold cutI; rw [hok]; rfl
    clear hok hz
    go_wp2_with fail
    refine (alive_any _).mono ?_
    rintro e5 w5 ⟨rfl, hb5⟩
    have L5 := L3.on _ hb5
    go_wp2_with fail
    go_returns
    exact ⟨by first | rfl | simp, HB.out.trans (L5.below.mono s1)⟩
  | true =>
    have hparts : treeB n es s = true ∧ 0 ≤ a ∧ a < es.length ∧ bits s a.toNat = true := by
      unfold cutOk at hok
      simp only [Bool.and_eq_true, decide_eq_true_eq] at hok
      exact ⟨hok.1, hok.2.1.1, hok.2.1.2, hok.2.2⟩
    obtain ⟨ht, ha0, hal, hba⟩ := hparts
    obtain ⟨m, rfl, hm, hm5⟩ := state_nat (treeB_ok ht)
    obtain ⟨k0, rfl⟩ : ∃ k : Nat, a = k := ⟨a.toNat, by omega⟩
    have hba : m.testBit k0 = true := hba
    have hka : k0 < es.length := by omega
    have h9 := (tree_nat ht).2.2.1
    have TP := (treeB_iff.1 ht).2
    obtain ⟨r, hr⟩ : ∃ r : Nat, setOf (cutB (endsOf es) es.length (bits (m : Nat)) k0) es.length = r := ⟨_, rfl⟩
    obtain rfl : z = (r : Nat) := by rw [← hz]; unfold cutI; rw [hok, if_pos rfl, ← hr]; rfl
    have hr9 : r < 512 := by rw [← hr]; exact setOf_le _ (show es.length ≤ 9 from h9)
    have HBIT : Hid (∀ k, k < es.length → r.testBit k = cutB (endsOf es) es.length (bits (m : Nat)) k0 k) := fun k hk => by rw [← hr, setOf_bit, decide_eq_true hk, Bool.true_and]
    have HT : Hid (∀ k, k < es.length → m.testBit k = false → treeB n es (((m - 2 ^ k0) ||| 2 ^ k : Nat) : Int) = r.testBit k) := fun k hk hb => by
      rw [HBIT.out k hk]; exact cut_tree ht hka hba hk hb
    have hTa : bits (m : Nat) k0 = true := by unfold bits; rw [Int.toNat_natCast, hba]
    have hra : r.testBit k0 = true := by rw [HBIT.out k0 hka]; exact TP.cut_at hka hTa
    have HHAS : Hid (∀ k, k < es.length → m.testBit k = true → k ≠ k0 → r.testBit k = false) := fun k hk hb hne => by
      rw [HBIT.out k hk]; exact TP.cut_has hk (by unfold bits; rw [Int.toNat_natCast, hb]) hne
    have HRING : Hid (∀ k, k < es.length → m.testBit k = false → ∃ g : Nat, g < 512 ∧ g.testBit k0 = r.testBit k ∧ ∀ (u : World), ArgNet w1 u n A1 c es → Calls Try.prog 42 #[.agg #[.int .i64 n, .slice A1 es.length c], .int .i64 (m : Nat), .int .i64 (k : Nat)] u fun e w' => e = .returned (.tuple #[.int .i64 (g : Nat), .bool true]) ∧ Below u.heap.size u w') := fun k hk hb => by
      have hTk : bits (m : Nat) k = false := by unfold bits; rw [Int.toNat_natCast, hb]
      have hO : ringOk n es (m : Nat) (k : Nat) = true := by
        unfold ringOk
        rw [ht, decide_eq_true (show (0 : Int) ≤ (k : Nat) by omega), decide_eq_true (show ((k : Nat) : Int) < es.length by omega), Int.toNat_natCast, hTk]; rfl
      have hI : ringI n es (m : Nat) (k : Nat) = (setOf (ringB (endsOf es) es.length (bits (m : Nat)) k) es.length : Nat) := by unfold ringI; rw [hO, if_pos rfl]; rfl
      refine ⟨setOf (ringB (endsOf es) es.length (bits (m : Nat)) k) es.length, setOf_le _ (show es.length ≤ 9 from h9), ?_, fun u h => ?_⟩
      · rw [setOf_bit, decide_eq_true hka, Bool.true_and, HBIT.out k hk]; exact TP.ring_cut hka hk hTa hTk
      · rw [← hI, ← hO]; exact ringWith_any n m k A1 c es u h.edges hle'
    have hleP : 2 ^ k0 ≤ m := Nat.le_of_not_lt fun h => by rw [Nat.testBit_lt_two_pow h] at hba; cases hba
    have HLB : Hid (∀ k, m.testBit k = false → (m - 2 ^ k0).testBit k = false) := fun k hb => by rw [less_testBit hm5 (show k0 < 9 by omega) hba, hb]; rfl
    have hM : m - 2 ^ k0 < 512 := Nat.lt_of_le_of_lt (Nat.sub_le _ _) hm5
    have hbita := bit_tmod r k0
    rw [hra, if_pos rfl] at hbita
    have hamin : min k0 64 = k0 := by omega
    obtain ⟨P, hP, p1, p2, hp3, hp4⟩ := pow_named12 (show k0 ≤ 13 by omega)
    rw [hP] at hleP hM HT HLB
    have wr1 : IntKind.i64.wrap ((m : Int) - (P : Int)) = ((m - P : Nat) : Int) := wrap_minus hleP hm5
    clear hok hz ht hm TP hr HBIT hTa hra hleP hP
    generalize m - P = q at *
    go_wp2_with fail
    go_loopw [10] (fun i wr => ∃ k : Nat, k ≤ es.length ∧ i = .int .i64 (k : Nat) ∧ ArgNet w1 wr n A1 c es) (fun i _ => es.length - (intOf i).toNat)
    case atStart => exact ⟨0, by omega, rfl, L3⟩
    case round =>
      clear L3 c0 c1 s0
      obtain ⟨k, hk, rfl, L⟩ := hrel
      obtain ⟨_, _, c0, c1, s0⟩ := id L
      by_cases hlt : k < es.length
      · have hbit := bit_tmod m k
        have hbitr := bit_tmod r k
        have hkmin : min k 64 = k := by omega
        have one : k = k0 ∨ (k ≠ k0 ∧ m.testBit k = true) ∨ m.testBit k = false := by
          by_cases e : k = k0
          · exact .inl e
          · cases m.testBit k with
            | false => exact .inr (.inr rfl)
            | true => exact .inr (.inl ⟨e, rfl⟩)
        rcases one with rfl | ⟨hne, hb⟩ | hb
        · rw [hba, if_pos rfl] at hbit
          clear hbitr
          go_wp2_with fail
          go_roundw
          case rel => first | exact ⟨k + 1, by omega, by go_num, L⟩ | exact ⟨_, _, ⟨k + 1, by omega, by go_num, L⟩, rfl⟩
          case measure => simp [intOf]; omega
        · rw [hb, if_pos rfl] at hbit
          rw [HHAS.out k hlt hb hne, if_neg (by simp)] at hbitr
          have hnz : ((k : Int) == (k0 : Int)) = false := beq_eq_false_iff_ne.2 (by omega)
          have hnq : ¬ ((k : Int) = (k0 : Int)) := by omega
          have hnb : ((k : Int) != (k0 : Int)) = true := by rw [bne, hnz]; rfl
          have hnn : (k == k0) = false := beq_eq_false_iff_ne.2 hne
          have hnd : decide (k = k0) = false := decide_eq_false hne
          go_wp2_with fail
          go_roundw
          case rel => first | exact ⟨k + 1, by omega, by go_num, L⟩ | exact ⟨_, _, ⟨k + 1, by omega, by go_num, L⟩, rfl⟩
          case measure => simp [intOf]; omega
        · rw [hb, if_neg (by simp)] at hbit
          have htk := HT.out k hlt hb
          have hqb := HLB.out k hb
          obtain ⟨g, hg, hgb, hcall⟩ := HRING.out k hlt hb
          have HG := Lib.hid hcall
          have hbitg := bit_tmod g k0
          have hadd := add_or hM (show k < 9 by omega) hqb
          have hM2 : q ||| 2 ^ k < 512 := Nat.or_lt_two_pow (n := 9) hM (Nat.pow_lt_pow_right (by omega) (by omega))
          obtain ⟨Q, hQ, q1, q2, hq3, hq4⟩ := pow_named12 (show k ≤ 13 by omega)
          rw [hQ] at htk hadd hM2
          have wr2 : IntKind.i64.wrap ((q : Int) + (Q : Int)) = ((q ||| Q : Nat) : Int) := wrap_plus hadd hM2
          have HC : Hid (∀ (u : World), ArgNet w1 u n A1 c es → Calls Try.prog 26 #[.agg #[.int .i64 n, .slice A1 es.length c], .int .i64 (q ||| Q : Nat)] u fun e w' => e = .returned (.bool (r.testBit k)) ∧ Below u.heap.size u w') := fun u h => by rw [← htk]; exact treeOk_any _ _ _ _ _ _ h.edges hle'
          rw [hgb] at hbitg
          clear htk hQ hb hcall hadd hM2 hgb hqb
          generalize q ||| Q = y at *
          cases hv : r.testBit k
          all_goals
            rw [hv] at hbitr HC hbitg
            first
              | rw [if_pos rfl] at hbitr hbitg
              | rw [if_neg (by simp)] at hbitr hbitg
            clear hv
            go_wp2_with fail
            refine (HG.out _ L).mono ?_
            rintro e5 w5 ⟨rfl, hb5⟩
            have L := L.on _ hb5
            clear c0 c1 s0 hb5
            go_wp2_with fail
            refine wp_region_class (fun u => ArgNet w1 u n A1 c es) (by kernel_rfl) (by kernel_rfl) L.drew ?_
            clear L
            intro X hX f hf hex
            have k0' : ∀ x, (f x).cell? ⟨w1.heap.size, 0, none⟩ = some (.int .i64 n) := fun x => (hf x).c0
            have k1 : ∀ x, (f x).cell? ⟨w1.heap.size, 1, none⟩ = some (.slice A1 es.length c) := fun x => (hf x).c1
            repeat (go_big_quiet_step (first | (go_at_call 26; with_reducible exact class_of hex (HC.out _ (hf _)) (hf _).on)))
            refine wpQuiet_nil ?_
            rintro _ ⟨x, rfl⟩
            have F := hf x
            clear k0' k1
            go_wp2_with fail
            go_roundw
            case rel => first | exact ⟨k + 1, by omega, by go_num, F⟩ | exact ⟨_, _, ⟨k + 1, by omega, by go_num, F⟩, rfl⟩
            case measure => simp [intOf]; omega
      · obtain rfl : k = es.length := by omega
        go_wp2_with fail
        go_returns
        exact ⟨by first | rfl | simp, HB.out.trans (L.below.mono s1)⟩

namespace fnCutWith
open Go.ChangeShapes Go.WideShapes Go.ChangeAt Go.RowKit Go.Deep Go.Joins
set_option linter.unusedVariables false
set_option maxRecDepth 100000 in
theorem lifted (os : Os) (started : os.Started) (H : Type) (enc : TypeId × Value → H) :
    ReturnsInHanded {} Try.checked os 12 .any (Rows.fnCutWithSpec.pre6 enc Try.prog Try.f12 Rows.fnCutWithRow.domain false) (Rows.fnCutWithSpec.post enc Try.prog Try.f12 false true false false) := by
  refine returnsInHanded_of_change (C := Try.checked) own started (by kernel_rfl) Try.func12
    (ChangeSpec.witness6 (enc := enc) (C := Try.checked) false ⟨#[], #[.slice none 0 0], []⟩ 8 (by kernel_rfl) (by kernel_rfl) (by kernel_rfl) (by kernel_rfl)) ?_
  intro W base args ds gs before hval0 hW hcnd _
  have hval : ∀ (j : Nat) t v, Try.f12.params[j]? = some t → args[j]? = some v → Value.okWide Try.prog W .any base t v := hval0
  have hW' := hW
  obtain ⟨p, q, hA0, hV, rfl, hfz, hnd⟩ := hW
  have hA : DataW.TrodAll enc Try.prog W 0 (fun _ => true) true Try.f12.params.toList args.toList ds p := hA0
  rw [Try.params12] at hA hval
  obtain ⟨v0, vs0, d0, ds0, p0, q0, hargs, rfl, rfl, h0, r0⟩ := trodAll_cons hA
  obtain ⟨rfl, rfl, rfl⟩ := trodAll_nil r0
  obtain rfl : args = #[v0] := by cases args; simp_all
  obtain ⟨rfl, rfl⟩ := trodVars_none hV
  have k0 := h0
  have lt0 : ∀ x ∈ p0, x.block < W.heap.size := by obtain ⟨m, hm⟩ := k0; exact DataW.trod_lt m _ _ _ hm
  obtain ⟨A0, c0, bs0, rfl, hb0, hl0⟩ := open_bytes (hval 0 22 v0 rfl rfl) h0
  clear hA0 hval0
  refine (cutWith_law A0 c0 bs0 W hb0 hl0).mono fun e W' ⟨he, bel⟩ => ?_
  subst he
  exact ⟨_, rfl, _, _, _, [], _, [], hW', trodAll_mk1 (shut_bool Try.underlying4 _), (trodAll_cons_mk (Below.trod laidOut (by kernel_rfl) (of_decide_eq_true (by kernel_rfl)) k0 bel lt0) trodAll_mk0), rfl, bel.frame _, fun h => by cases h⟩

theorem holds : Rows.FnCutWithSaid :=
  OpenClaim.holds_of_wide 12 Try.f12 rfl rfl rfl rfl rfl rfl rfl ⟨rfl, rfl, rfl, rfl, rfl⟩ rfl rfl rfl rfl rfl (by kernel_rfl) Try.func12 (by kernel_rfl)
    (of_decide_eq_true (by kernel_rfl)) (by unfold Func.isWrapper; first | (rw [if_pos (by decide +kernel)]; kernel_rfl) | (rw [if_neg (by decide +kernel)]; exact ⟨rfl, rfl⟩))
    (fun os started H enc _ => lifted os started H enc)
end fnCutWith
end Go.Proofs.Ytmdmmebekicpkab
