/- PathsOf and CutsOf of the reference. -/
import Derived.Test.YtfflfinhhdhnkabImpl4
namespace Go.Proofs.Ytfflfinhhdhnkab
open Go.RowKit
set_option maxRecDepth 100000

theorem l4Ends_any (n a b : Int) (A : Option Addr) (cap : Nat) (es : List (Int × Int)) (w : World) (hes : EdgesIn w w.heap.size A es) (hl : es.length ≤ 1048576) :
    Calls Try.prog 54 #[.agg #[.int .i64 n, .slice A es.length cap], .int .i64 a, .int .i64 b] w fun e w' => e = .returned (.bool (joinOkB n es a b)) ∧ Below w.heap.size w w' := by
  have L0 := ArgNet.start (cap := cap) (n := n) 25 hes
  cases hn : netOkB n es with
  | false =>
    have HN := Lib.hid hn
    have HJ : Hid (joinOkB n es a b = false) := by simp [Hid, joinOkB, hn]
    clear hn
    go_enter Try.func54, Try.ntmps54
    go_wp2_with fail
    refine (specNetOk_any _ _ _ _ _ L0.edges hl).mono ?_
    rintro e1 w1 ⟨rfl, hb1⟩
    rw [HN.out]
    have L1 := L0.step hb1 L0.lt
    go_wp2_with fail
    go_returns
    exact ⟨retB HJ.out.symm, L1.below⟩
  | true =>
    have HN := Lib.hid hn
    by_cases ha : 1 ≤ a ∧ a ≤ n
    · have HA : Hid ((decide (1 ≤ a) && decide (a ≤ n)) = true) := by simp [Hid, ha.1, ha.2]
      by_cases hb : 1 ≤ b ∧ b ≤ n
      · have HB : Hid ((decide (1 ≤ b) && decide (b ≤ n)) = true) := by simp [Hid, hb.1, hb.2]
        have HJ : Hid (joinOkB n es a b = !decide (a = b)) := by simp [Hid, joinOkB, hn, ha, hb]
        clear hn ha hb
        by_cases hab : a = b
        · subst hab
          go_enter Try.func54, Try.ntmps54
          go_wp2_with fail
          refine (specNetOk_any _ _ _ _ _ L0.edges hl).mono ?_
          rintro e1 w1 ⟨rfl, hb1⟩
          rw [HN.out]
          have L1 := L0.step hb1 L0.lt
          clear hb1 L0
          obtain ⟨_, _, c0, c1, s1⟩ := id L1
          go_wp2_with fail
          refine (l1In_any _ _ _ _).mono ?_
          rintro e2 w2 ⟨rfl, rfl⟩
          rw [HA.out]
          go_wp2_with fail
          refine (l1In_any _ _ _ _).mono ?_
          rintro e3 w3 ⟨rfl, rfl⟩
          rw [HA.out]
          go_wp2_with fail
          go_returns
          exact ⟨retB (by rw [HJ.out]; simp), L1.below⟩
        · have HAB := Lib.hid hab
          have hne : (a != b) = true := by simpa using hab
          clear hab
          go_enter Try.func54, Try.ntmps54
          go_wp2_with fail
          refine (specNetOk_any _ _ _ _ _ L0.edges hl).mono ?_
          rintro e1 w1 ⟨rfl, hb1⟩
          rw [HN.out]
          have L1 := L0.step hb1 L0.lt
          clear hb1 L0
          obtain ⟨_, _, c0, c1, s1⟩ := id L1
          go_wp2_with fail
          refine (l1In_any _ _ _ _).mono ?_
          rintro e2 w2 ⟨rfl, rfl⟩
          rw [HA.out]
          go_wp2_with fail
          refine (l1In_any _ _ _ _).mono ?_
          rintro e3 w3 ⟨rfl, rfl⟩
          rw [HB.out]
          go_wp2_with fail
          go_returns
          exact ⟨retB (by rw [HJ.out]; simp [HAB.out]), L1.below⟩
      · have HB : Hid ((decide (1 ≤ b) && decide (b ≤ n)) = false) := by simp [Hid]; omega
        have HJ : Hid (joinOkB n es a b = false) := by simp [Hid, joinOkB]; omega
        clear hn ha hb
        go_enter Try.func54, Try.ntmps54
        go_wp2_with fail
        refine (specNetOk_any _ _ _ _ _ L0.edges hl).mono ?_
        rintro e1 w1 ⟨rfl, hb1⟩
        rw [HN.out]
        have L1 := L0.step hb1 L0.lt
        clear hb1 L0
        obtain ⟨_, _, c0, c1, s1⟩ := id L1
        go_wp2_with fail
        refine (l1In_any _ _ _ _).mono ?_
        rintro e2 w2 ⟨rfl, rfl⟩
        rw [HA.out]
        go_wp2_with fail
        refine (l1In_any _ _ _ _).mono ?_
        rintro e3 w3 ⟨rfl, rfl⟩
        rw [HB.out]
        go_wp2_with fail
        go_returns
        exact ⟨retB HJ.out.symm, L1.below⟩
    · have HA : Hid ((decide (1 ≤ a) && decide (a ≤ n)) = false) := by simp [Hid]; omega
      have HJ : Hid (joinOkB n es a b = false) := by simp [Hid, joinOkB]; omega
      clear hn ha
      go_enter Try.func54, Try.ntmps54
      go_wp2_with fail
      refine (specNetOk_any _ _ _ _ _ L0.edges hl).mono ?_
      rintro e1 w1 ⟨rfl, hb1⟩
      rw [HN.out]
      have L1 := L0.step hb1 L0.lt
      clear hb1 L0
      obtain ⟨_, _, c0, c1, s1⟩ := id L1
      go_wp2_with fail
      refine (l1In_any _ _ _ _).mono ?_
      rintro e2 w2 ⟨rfl, rfl⟩
      rw [HA.out]
      go_wp2_with fail
      go_returns
      exact ⟨retB HJ.out.symm, L1.below⟩

/-- The class of worlds in which the reference's loops run. -/
structure OutNet (w u : World) (n : Int) (A : Option Addr) (cap : Nat) (es : List (Int × Int)) (v : Value) (xs : List Int) : Prop where
  net : ArgNet w u n A cap es
  own : OwnI u (w.heap.size + 1) v xs
theorem OutNet.next {w u u' : World} {n : Int} {A : Option Addr} {cap : Nat} {es : List (Int × Int)} {v : Value} {xs : List Int} (h : OutNet w u n A cap es v xs) (hb : Below u.heap.size u u') : OutNet w u' n A cap es v xs :=
  ⟨h.net.step hb h.net.lt, h.own.below hb h.own.lt⟩
theorem OutNet.drew {w u : World} {n : Int} {A : Option Addr} {cap : Nat} {es : List (Int × Int)} {v : Value} {xs : List Int} (h : OutNet w u n A cap es v xs) : OutNet w u.drew n A cap es v xs :=
  ⟨h.net.drew, h.own.drew⟩

theorem rest_less {P s q : Nat} (h : q ≤ s) (hs : s < P) : P - 1 - s + q = P - 1 - (s - q) := by omega
theorem add_wrap (m k r : Nat) (hm : m < 512) (hk : k < 9) (h : m + 2 ^ k = r) : IntKind.i64.wrap ((m : Int) + wrap64 (2 ^ k)) = (r : Int) := by
  subst h
  revert m; revert k; decide +kernel

end Go.Proofs.Ytfflfinhhdhnkab
