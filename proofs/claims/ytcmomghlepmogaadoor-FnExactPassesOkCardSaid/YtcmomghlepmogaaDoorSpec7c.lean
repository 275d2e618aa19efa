/- Grids of the reference: rows of truths, pairs, and what grows from pair to pair. -/
import Derived.Test.YtcmomghlepmogaaDoorSpec7
import Derived.Test.YtcmomghlepmogaaDoorRows2
import Derived.Test.YtcmomghlepmogaaDoorTab7
import Derived.BigQuiet
import Derived.BigRegion
namespace Go.Proofs.YtcmomghlepmogaaDoor
open Go.RowKit
set_option maxRecDepth 100000

/-- The truths that the bits of a number tell. -/
def boolsOf (n D : Nat) : List Value := (List.range n).map fun i => Value.bool (D.testBit i)
theorem boolsOf_length (n D : Nat) : (boolsOf n D).length = n := by simp [boolsOf]
theorem boolsOf_get {n D i : Nat} (h : i < n) : (boolsOf n D)[i]? = some (.bool (D.testBit i)) := by simp [boolsOf, h]
theorem or_bits (D b i : Nat) : (D ||| 2 ^ b).testBit i = (D.testBit i || decide (b = i)) := by rw [Nat.testBit_or, Nat.testBit_two_pow]
theorem boolsOf_set (n D k : Nat) : (boolsOf n D).set k (.bool true) = boolsOf n (D ||| 2 ^ k) := by
  apply List.ext_getElem?
  intro j
  by_cases hj : j < n
  · by_cases hk : k = j
    · subst hk; rw [List.getElem?_set_self (by rw [boolsOf_length]; exact hj), boolsOf_get hj, or_bits]; simp
    · rw [List.getElem?_set_ne hk, boolsOf_get hj, boolsOf_get hj, or_bits]; simp [hk]
  · rw [List.getElem?_eq_none (by simp [boolsOf]; omega), List.getElem?_eq_none (by simp [boolsOf]; omega)]
theorem madeCells_bools (n : Nat) : (madeCells #[.bool false] (n * 1)).toList = boolsOf n 0 := by
  apply List.ext_getElem?
  intro j
  by_cases hj : j < n
  · rw [boolsOf_get hj]; simp [madeCells, hj, Nat.mod_one]
  · rw [List.getElem?_eq_none (by simp [madeCells]; omega), List.getElem?_eq_none (by rw [boolsOf_length]; omega)]
theorem bool_info : (Tryd.prog.info? 4).map (fun i => (i.zero, i.size, i.bytes)) = some (some (.bool false), 1, 1) := by kernel_rfl

/-- A row of n truths of the call's own, in block g, told by the bits of D. -/
def OwnB (u : World) (base g n c D : Nat) : Prop := u.ownsRow base 4 1 (.slice (some ⟨g, 0, none⟩) n c) n (boolsOf n D)
theorem OwnB.slot {u : World} {base g n c D : Nat} (h : OwnB u base g n c D) {k : Nat} (hk : k < n) : u.cell? ⟨g, k, none⟩ = some (.bool (D.testBit k)) ∧ u.frozen? ⟨g, k, none⟩ = false :=
  ⟨by rw [World.ownsRow.cellAt h k (by omega)]; exact boolsOf_get hk, World.ownsRow.frozenAt h k⟩
theorem OwnB.store {u : World} {base g n c D : Nat} (h : OwnB u base g n c D) (k : Nat) : OwnB (u.setCell ⟨g, k, none⟩ (.bool true)) base g n c (D ||| 2 ^ k) := by
  have h1 := (World.ownsRow.stored h k (.bool true)).1
  rw [boolsOf_set] at h1; exact h1
theorem OwnB.lt {u : World} {base g n c D : Nat} (h : OwnB u base g n c D) : g < u.heap.size := (World.ownsRow.lt h g rfl).2
theorem OwnB.ge {u : World} {base g n c D : Nat} (h : OwnB u base g n c D) : base ≤ g := (World.ownsRow.lt h g rfl).1
theorem OwnB.next {u u' : World} {base g n c D : Nat} (h : OwnB u base g n c D) (hb : Below u.heap.size u u') : OwnB u' base g n c D := ownsRow_next h hb
theorem OwnB.drew {u : World} {base g n c D : Nat} (h : OwnB u base g n c D) : OwnB u.drew base g n c D := h.next ((Below.refl _ _).drew)
theorem OwnB.drewN {u : World} {base g n c D : Nat} (h : OwnB u base g n c D) (m : Nat) : OwnB (u.drewN m) base g n c D := h.next (belowN (Below.refl _ _) m)
theorem OwnB.grown {u u' : World} {base g n c D : Nat} {r : Option Nat} (h : OwnB u base g n c D) (hg : u.grownBy u' r) (hr : r ≠ some g) : OwnB u' base g n c D :=
  World.ownsRow.kept h hg (.inr fun e => hr e.symm)

/-- What can be read of a row of pairs, none of it in block gd. -/
def PairsAt (u : World) (gd : Nat) (OA : Option Addr) (ps : List (Nat × Nat)) : Prop :=
  ∀ j a b, ps[j]? = some (a, b) → ∃ ob bb c, OA = some ⟨ob, 0, none⟩ ∧ ob ≠ gd ∧ bb ≠ gd ∧ ob < u.heap.size ∧ bb < u.heap.size ∧ u.cell? ⟨ob, j, none⟩ = some (.slice (some ⟨bb, 0, none⟩) 2 c) ∧ u.cell? ⟨bb, 0, none⟩ = some (.int .i64 (a : Nat)) ∧ u.cell? ⟨bb, 1, none⟩ = some (.int .i64 (b : Nat))
theorem PairsAt.next {u u' : World} {gd : Nat} {OA : Option Addr} {ps : List (Nat × Nat)} (h : PairsAt u gd OA ps) (hb : Below u.heap.size u u') : PairsAt u' gd OA ps := by
  intro j a b hj
  obtain ⟨ob, bb, c, h1, h2, h3, h4, h5, h6, h7, h8⟩ := h j a b hj
  exact ⟨ob, bb, c, h1, h2, h3, Nat.lt_of_lt_of_le h4 hb.size, Nat.lt_of_lt_of_le h5 hb.size, (hb.cell (p := ⟨ob, j, none⟩) h4).trans h6, (hb.cell (p := ⟨bb, 0, none⟩) h5).trans h7, (hb.cell (p := ⟨bb, 1, none⟩) h5).trans h8⟩
theorem PairsAt.set {u : World} {gd : Nat} {OA : Option Addr} {ps : List (Nat × Nat)} (h : PairsAt u gd OA ps) (k : Nat) (v : Value) : PairsAt (u.setCell ⟨gd, k, none⟩ v) gd OA ps := by
  intro j a b hj
  obtain ⟨ob, bb, c, h1, h2, h3, h4, h5, h6, h7, h8⟩ := h j a b hj
  exact ⟨ob, bb, c, h1, h2, h3, by simpa [World.setCell] using h4, by simpa [World.setCell] using h5, (World.cell?_setCell_far _ _ _ _ (by simpa using fun e => h2 e.symm)).trans h6,
    (World.cell?_setCell_far _ _ _ _ (by simpa using fun e => h3 e.symm)).trans h7, (World.cell?_setCell_far _ _ _ _ (by simpa using fun e => h3 e.symm)).trans h8⟩
def pairF (ps : List (Nat × Nat)) (j : Nat) : List Int := [((ps.getD j (0, 0)).1 : Nat), ((ps.getD j (0, 0)).2 : Nat)]
theorem RRows.pairs {u : World} {base gd : Nat} {OA : Option Addr} {oc : Nat} {ps : List (Nat × Nat)} (h : RRows u base OA ps.length oc 2 (pairF ps)) (hgd : gd < base) : PairsAt u gd OA ps := by
  intro j a b hj
  have hjl : j < ps.length := (List.getElem?_eq_some_iff.1 hj).1
  have hge := fun k hk => World.ownsRow.lt (h.choose_spec.2.1) k hk
  have hF : pairF ps j = [(a : Int), (b : Int)] := by
    unfold pairF
    have : ps.getD j (0, 0) = (a, b) := by simp [List.getD, hj]
    rw [this]
  obtain ⟨vs, hl, ho, hr⟩ := h
  obtain ⟨bb, c, h1, h2, h3, h4, h5⟩ := hr j hjl
  rcases ho.form (by omega) with ⟨ob, cap, hv, hb1, hb2⟩
  injection hv with hA hn hcc
  subst hA hcc
  rw [hF] at h5
  obtain ⟨b', off, e', _, q0⟩ := h5 0 a rfl
  injection e' with e'; injection e' with e1 e2; subst e1 e2
  obtain ⟨b', off, e', _, q1⟩ := h5 1 b rfl
  injection e' with e'; injection e' with e1 e2; subst e1 e2
  exact ⟨ob, bb, c, rfl, by omega, by omega, hb2, h4, by rw [World.ownsRow.cellAt ho j (by omega)]; exact h1, q0, q1⟩

def adjP (ps : List (Nat × Nat)) (a b : Nat) : Bool := decide ((a, b) ∈ ps ∨ (b, a) ∈ ps)
theorem or_same {D b : Nat} (h : D.testBit b = true) : D ||| 2 ^ b = D := by
  refine Nat.eq_of_testBit_eq fun i => ?_
  rw [or_bits]
  by_cases e : b = i
  · subst e; simp [h]
  · simp [e]
theorem or_swap (D a b : Nat) : (D ||| 2 ^ a) ||| 2 ^ b = (D ||| 2 ^ b) ||| 2 ^ a := by rw [Nat.or_assoc, Nat.or_comm (2 ^ a), ← Nat.or_assoc]
/-- Both ends of a pair are put in, one of which is there. -/
theorem Grow7.pair {ps : List (Nat × Nat)} {n F D0 D : Nat} {again : Bool} (h : Grow7 (adjP ps) n (2 ^ n - 1) F D0 D again) {a b : Nat} (ha : a < n) (hb : b < n) (hm : (a, b) ∈ ps) (hne : D.testBit a ≠ D.testBit b) :
    Grow7 (adjP ps) n (2 ^ n - 1) F D0 ((D ||| 2 ^ a) ||| 2 ^ b) true := by
  have full : ∀ i, i < n → (2 ^ n - 1).testBit i = true := fun i hi => by rw [Nat.testBit_two_pow_sub_one]; simpa using hi
  cases h1 : D.testBit a with
  | true =>
    have h2 : D.testBit b = false := by cases h2 : D.testBit b with
      | true => exact absurd (h1.trans h2.symm) hne
      | false => rfl
    rw [or_same h1]
    exact h.hit ha hb (by simp [adjP, hm]) h1 (full b hb) h2
  | false =>
    have h2 : D.testBit b = true := by cases h2 : D.testBit b with
      | true => rfl
      | false => exact absurd (h1.trans h2.symm) hne
    rw [or_swap, or_same h2]
    exact h.hit hb ha (by simp [adjP, hm]) h2 (full a ha) h1

def trueAt (u : World) (g i : Nat) : Bool := match u.cell? ⟨g, i, none⟩ with
  | some (.bool true) => true
  | _ => false
/-- The bits of a row of truths, read out of the world. -/
def maskW (u : World) (g n : Nat) : Nat := maskOf (trueAt u g) n
theorem maskW_is {u : World} {base g n c D : Nat} (h : OwnB u base g n c D) (hD : D < 2 ^ n) : maskW u g n = D := by
  refine Nat.eq_of_testBit_eq fun i => ?_
  unfold maskW
  rw [maskOf_bit]
  by_cases hi : i < n
  · have := (h.slot hi).1
    have e : trueAt u g i = D.testBit i := by
      unfold trueAt
      rw [this]
      cases D.testBit i <;> rfl
    rw [e]; simp [hi]
  · rw [Nat.testBit_lt_two_pow (Nat.lt_of_lt_of_le hD (Nat.pow_le_pow_right (by omega) (by omega)))]; simp [hi]

set_option maxHeartbeats 4000000 in
theorem l7Grow_any (gd n c oc F : Nat) (OA : Option Addr) (ps : List (Nat × Nat)) (w : World) (base : Nat) (hown : OwnB w base gd n c F) (hps : PairsAt w gd OA ps) (hin : ∀ a b, (a, b) ∈ ps → a < n ∧ b < n) (hF : F < 2 ^ n) (hn : n ≤ 12) (hl : ps.length ≤ 100) :
    Calls Tryd.prog 40 #[.slice (some ⟨gd, 0, none⟩) n c, .slice OA ps.length oc] w fun e w' => ∃ D : Nat, Reach (adjP ps) n (2 ^ n - 1) F D ∧ e = .returned (.slice (some ⟨gd, 0, none⟩) n c) ∧ OwnB w' base gd n c D ∧ Below base w w' := by
  have G0 : Grow7 (adjP ps) n (2 ^ n - 1) F F F false := ⟨fun i hi => by rw [Nat.testBit_two_pow_sub_one]; simpa using bit_below hF hi, fun i _ h => h, fun E e1 _ i hi => e1 i (by rw [Nat.testBit_two_pow_sub_one]; simpa using bit_below hF hi) hi, hF, by simp⟩
  have h12 : 2 ^ n ≤ 2 ^ 12 := Nat.pow_le_pow_right (by omega) hn
  obtain ⟨P, hP⟩ : ∃ P, 2 ^ n = P := ⟨_, rfl⟩
  have HP := Lib.hid hP
  rw [hP] at h12
  have hP4 : P ≤ 4096 := h12
  have HIN := Lib.hid hin
  obtain ⟨m, hm⟩ : ∃ m, ps.length = m := ⟨_, rfl⟩
  have HM := Lib.hid hm
  rw [hm] at hl ⊢
  have hbg := hown.ge
  clear hP hF hin hm
  go_enter Tryd.func40, Tryd.ntmps40
  go_wp2_with fail
  go_loopw [5] (fun g wr => ∃ (D : Nat) (again : Bool), g = .bool again ∧ Grow7 (adjP ps) n (2 ^ n - 1) F D D false ∧ (again = false → ∀ j a b : Nat, ps[j]? = some (a, b) → D.testBit a = D.testBit b) ∧ OwnB wr base gd n c D ∧ PairsAt wr gd OA ps ∧ Below base w wr) (fun g wr => 2 * (P - maskW wr gd n) + oneB g)
  case atStart => exact ⟨F, true, rfl, G0, by simp, hown, hps, Below.refl _ _⟩
  case round =>
    clear G0 hown hps
    obtain ⟨D, again, rfl, G, hcl, own, ps0, hb⟩ := hrel
    cases again with
    | false =>
      go_wp2_with fail
      go_returns
      refine ⟨D, G.reach fun a b ha hb' ht h1 h2 => ?_, rfl, own, hb⟩
      have hcl' := hcl (by simp)
      simp only [adjP, decide_eq_true_eq] at ht
      rcases ht with h | h
      · obtain ⟨j, hj⟩ := List.getElem?_of_mem h
        rw [← hcl' j a b hj]; exact h1
      · obtain ⟨j, hj⟩ := List.getElem?_of_mem h
        rw [hcl' j b a hj]; exact h1
    | true =>
      clear hcl
      have hDP := G.lt
      have hMW := Lib.hid (maskW_is own G.lt)
      rw [HP.out] at hDP
      have HDP := Lib.hid hDP
      go_wp2_with fail
      go_loopw [5, 6] (fun g k wr => ∃ (D2 : Nat) (g2 : Bool) (j : Nat), j ≤ m ∧ k = .int .i64 (j : Nat) ∧ g = .bool g2 ∧ Grow7 (adjP ps) n (2 ^ n - 1) F D D2 g2 ∧ (g2 = false → ∀ i, i < j → ∀ a b : Nat, ps[i]? = some (a, b) → D.testBit a = D.testBit b) ∧ OwnB wr base gd n c D2 ∧ PairsAt wr gd OA ps ∧ Below base w wr) (fun _ k _ => m - (intOf k).toNat)
      case atStart => exact ⟨D, false, 0, by omega, rfl, rfl, G, fun _ i h => by omega, own, ps0, hb⟩
      case round =>
        clear own ps0 hb G hDP
        obtain ⟨D2, g2, j, hj, rfl, rfl, G2, hdn, own, ps0, hb⟩ := hrel
        by_cases hlt : j < m
        · obtain ⟨⟨a, b⟩, hab⟩ : ∃ e, ps[j]? = some e := ⟨ps[j]'(by rw [HM.out]; exact hlt), List.getElem?_eq_getElem _⟩
          obtain ⟨ob, bb, c2, rfl, h2, h3, h4, h5, x6, x7, x8⟩ := ps0 j a b hab
          obtain ⟨ha, hb'⟩ := HIN.out a b (List.mem_of_getElem? hab)
          obtain ⟨y1, f1⟩ := own.slot ha
          obtain ⟨y2, f2⟩ := own.slot hb'
          have ij : (j : Int) < (m : Int) := by omega
          have ia : (a : Int) < (n : Int) := by omega
          have ib : (b : Int) < (n : Int) := by omega
          have HG := Lib.hid G2
          have HDN := Lib.hid hdn
          have HAB := Lib.hid hab
          have HPS := Lib.hid ps0
          by_cases hne : D2.testBit a = D2.testBit b
          · have HS : Hid (g2 = false → ∀ i, i < j + 1 → ∀ a b : Nat, ps[i]? = some (a, b) → D.testBit a = D.testBit b) := fun hg i hi a' b' hab' => by
              by_cases e : i = j
              · subst e
                rw [HAB.out] at hab'
                injection hab' with hab'; injection hab' with e1 e2
                have := HG.out
                subst hg
                rw [← e1, ← e2, ← this.done]; exact hne
              · exact HDN.out hg i (by omega) a' b' hab'
            have HO := Lib.hid own
            rw [hne] at y1
            clear own ps0 G2 hdn hab hne
            generalize D2.testBit b = v at *
            go_wp2_with fail
            go_quiet (fail)
            cases v
            all_goals
              go_wp2_with fail
              go_roundw
              case rel => exact ⟨D2, g2, j + 1, by omega, by go_num, rfl, HG.out, HS.out, HO.out.drewN _, HPS.out.next (belowN (Below.refl _ _) _), belowN hb _⟩
              case measure => simp [intOf]; omega
          · have G3 := Lib.hid (G2.pair ha hb' (List.mem_of_getElem? hab) hne)
            have hne2 : a ≠ b := fun e => hne (by rw [e])
            have HO := Lib.hid ((own.store a).store b)
            have HP2 := Lib.hid ((ps0.set a (.bool true)).set b (.bool true))
            have HB2 := Lib.hid ((hb.setCell (p := ⟨gd, a, none⟩) hbg (.bool true)).setCell (p := ⟨gd, b, none⟩) hbg (.bool true))
            cases hva : D2.testBit a with
            | true =>
              have hvb : D2.testBit b = false := by cases hvb : D2.testBit b with
                | true => exact absurd (hva.trans hvb.symm) hne
                | false => rfl
              rw [hva] at y1
              rw [hvb] at y2
              clear own ps0 G2 hdn hab hne hva hvb hb
              go_wp2_with fail
              go_quiet (fail)
              go_wp2_with fail
              go_roundw
              case rel => exact ⟨_, true, j + 1, by omega, by go_num, rfl, G3.out, by simp, HO.out.drewN _, HP2.out.next (belowN (Below.refl _ _) _), belowN HB2.out _⟩
              case measure => simp [intOf]; omega
            | false =>
              have hvb : D2.testBit b = true := by cases hvb : D2.testBit b with
                | true => rfl
                | false => exact absurd (hva.trans hvb.symm) hne
              rw [hva] at y1
              rw [hvb] at y2
              clear own ps0 G2 hdn hab hne hva hvb hb
              go_wp2_with fail
              go_quiet (fail)
              go_wp2_with fail
              go_roundw
              case rel => exact ⟨_, true, j + 1, by omega, by go_num, rfl, G3.out, by simp, HO.out.drewN _, HP2.out.next (belowN (Below.refl _ _) _), belowN HB2.out _⟩
              case measure => simp [intOf]; omega
        · obtain rfl : j = m := by omega
          have hd := G2.lt
          rw [HP.out] at hd
          have hmw := maskW_is own G2.lt
          go_wp2_with fail
          go_roundw
          case rel =>
            refine ⟨D2, g2, rfl, G2.next, fun hg => ?_, own, ps0, hb⟩
            subst hg
            have e := G2.done
            subst e
            intro i a b hi
            exact hdn rfl i (by rw [← HM.out]; exact (List.getElem?_eq_some_iff.1 hi).1) a b hi
          case measure =>
            rw [hmw, hMW.out]
            have hDP := HDP.out
            cases g2 with
            | true => have g := G2.grew; simp [oneB]; exact Nat.sub_lt_sub_left hDP g
            | false => have e := G2.done; subst e; simp [oneB]
end Go.Proofs.YtcmomghlepmogaaDoor
