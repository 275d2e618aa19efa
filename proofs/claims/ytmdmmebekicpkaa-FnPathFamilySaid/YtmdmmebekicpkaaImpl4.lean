/- All states, least states: the program's. -/
import Derived.Test.YtmdmmebekicpkaaAllSets
import Derived.Test.YtmdmmebekicpkaaImplCnt
import Derived.Test.YtmdmmebekicpkaaImpl2
namespace Go.Proofs.Ytmdmmebekicpkaa
open Go.RowKit
set_option maxRecDepth 100000

/-- A function's value answers J for each state. -/
def AskS (F : FuncId) (caps : Array Value) (l : Nat) (J : Nat → Bool) (w : World) : Prop :=
  ∀ u, Below w.heap.size w u → ∀ t : Nat, t < 2 ^ l → Calls Try.prog F (#[.int .i64 (t : Int)] ++ caps) u fun e w' => e = .returned (.bool (J t)) ∧ Below u.heap.size u w'
theorem AskS.on {F : FuncId} {caps : Array Value} {l : Nat} {J : Nat → Bool} {w w' : World} (h : AskS F caps l J w) (hb : Below w.heap.size w w') : AskS F caps l J w' :=
  fun u hu => h u (hb.trans (hu.mono hb.size))

set_option maxHeartbeats 1000000 in
theorem worksWithLess_any (F : FuncId) (caps : Array Value) (J : Nat → Bool) (n : Int) (s : Nat) (A : Option Addr) (cap : Nat) (es : List (Int × Int)) (w : World) (hes : EdgesIn w w.heap.size A es) (hl : es.length ≤ 9) (hs : s < 2 ^ es.length)
    (hF : ∀ (args : Array Value) (u : World), (callFunc F args).run Try.prog u = .ok (.enter F args) u) (hq : AskS F caps es.length J w) :
    Calls Try.prog 130 #[.agg #[.int .i64 n, .slice A es.length cap], .int .i64 s, .func (.func F) #[] caps] w fun e w' => e = .returned (.bool (lessB es.length J s)) ∧ Below w.heap.size w w' := by
  have L0 := ArgNet.start (cap := cap) (n := n) 53 hes
  have h512 : s < 512 := Nat.lt_of_lt_of_le hs (Nat.pow_le_pow_right (n := 2) (by omega) hl)
  have HQ : Hid (∀ u, Below w.heap.size w u → ∀ k, k < es.length → s.testBit k = true → Calls Try.prog F (#[.int .i64 ((s - 2 ^ k : Nat) : Int)] ++ caps) u fun e w' => e = .returned (.bool (J (s - 2 ^ k))) ∧ Below u.heap.size u w') :=
    fun u hu k _ _ => hq u hu _ (Nat.lt_of_le_of_lt (Nat.sub_le _ _) hs)
  have hcv : IntKind.u64.wrap (s : Int) = (s : Int) := by unfold IntKind.wrap; simp [IntKind.bits, IntKind.signed]; omega
  obtain ⟨_, _, c0, c1, s0⟩ := id L0
  have B0 := L0.below
  obtain ⟨m, hm⟩ : ∃ m, es.length = m := ⟨_, rfl⟩
  rw [hm] at c1 B0 HQ hl hs ⊢
  clear hm hq hes L0
  go_enter Try.func130, Try.ntmps130
  go_wp2_with fail
  go_loopw [7, 11] (fun _ i wr => ∃ k : Nat, k ≤ m ∧ i = .int .i64 (k : Nat) ∧ ((List.range k).any fun k => s.testBit k && J (s - 2 ^ k)) = false ∧ Below w.heap.size w wr) (fun _ i _ => m - (intOf i).toNat)
  case atStart => exact ⟨0, by omega, rfl, rfl, B0⟩
  case round =>
    clear B0 c0 c1 s0
    obtain ⟨k, hk, rfl, hno, hb⟩ := hrel
    by_cases hlt : k < m
    · have hM : ∀ v, Calls Try.prog 105 #[.int .u64 s, .int .i64 k] v fun e w' => e = .returned (.bool (s.testBit k)) ∧ v = w' := fun v => has_any s k v h512 (by omega)
      cases ht : s.testBit k with
      | false =>
        rw [ht] at hM
        have hnext : ((List.range (k + 1)).any fun k => s.testBit k && J (s - 2 ^ k)) = false := by rw [lessB_to, hno, ht]; rfl
        have HN := Lib.hid hnext
        clear hno hnext
        go_wp2_with fail
        refine (hM _).mono ?_
        rintro e1 w1 ⟨rfl, rfl⟩
        go_wp2_with fail
        go_roundw
        case rel => exact ⟨k + 1, by omega, by go_num, HN.out, hb⟩
        case measure => simp [intOf]; omega
      | true =>
        rw [ht] at hM
        have hcall := HQ.out wr hb k hlt ht
        have hbits := andNot_one s k h512 (by omega) ht
        cases hv : J (s - 2 ^ k) with
        | false =>
          have hnext : ((List.range (k + 1)).any fun k => s.testBit k && J (s - 2 ^ k)) = false := by rw [lessB_to, hno, ht, hv]; rfl
          have HN := Lib.hid hnext
          rw [hv] at hcall
          clear hno hnext
          go_wp2_with fail
          refine (hM _).mono ?_
          rintro e1 w1 ⟨rfl, rfl⟩
          go_wp2_with fail
          refine hcall.mono ?_
          rintro e2 w2 ⟨rfl, hb2⟩
          have hb3 := hb.trans (hb2.mono hb.size)
          clear hcall hb2 hb
          go_wp2_with fail
          go_roundw
          case rel => exact ⟨k + 1, by omega, by go_num, HN.out, hb3⟩
          case measure => simp [intOf]; omega
        | true =>
          have HN : Hid (lessB m J s = true) := lessB_one hlt (by rw [ht, hv]; rfl)
          rw [hv] at hcall
          clear hno
          go_wp2_with fail
          refine (hM _).mono ?_
          rintro e1 w1 ⟨rfl, rfl⟩
          go_wp2_with fail
          refine hcall.mono ?_
          rintro e2 w2 ⟨rfl, hb2⟩
          have hb3 := hb.trans (hb2.mono hb.size)
          clear hcall hb2 hb
          go_wp2_with fail
          go_returns
          exact ⟨retB HN.out.symm, hb3⟩
    · obtain rfl : k = m := by omega
      have HN : Hid (lessB k J s = false) := hno
      clear hno
      go_wp2_with fail
      go_returns
      exact ⟨retB HN.out.symm, hb⟩

theorem leastTest_any (F : FuncId) (caps : Array Value) (J : Nat → Bool) (n : Int) (s b0 b1 : Nat) (A : Option Addr) (cap : Nat) (es : List (Int × Int)) (u : World) (c0 : u.cell? ⟨b0, 0, none⟩ = some (.int .i64 n)) (c1 : u.cell? ⟨b0, 1, none⟩ = some (.slice A es.length cap))
    (d0 : u.cell? ⟨b1, 0, none⟩ = some (.func (.func F) #[] caps)) (hlt : b0 < u.heap.size) (hlt1 : b1 < u.heap.size) (hes : EdgesIn u u.heap.size A es) (hl : es.length ≤ 9) (hs : s < 2 ^ es.length)
    (hF : ∀ (args : Array Value) (u : World), (callFunc F args).run Try.prog u = .ok (.enter F args) u) (hq : AskS F caps es.length J u) :
    Calls Try.prog 129 #[.int .i64 s, .pointer (some ⟨b1, 0, none⟩), .pointer (some ⟨b0, 0, none⟩)] u fun e w' => e = .returned (.bool (leastB es.length J s)) ∧ Below u.heap.size u w' := by
  have hcall := hq u (Below.refl _ _) s hs
  have HQ := Lib.hid hq
  clear hq
  cases hv : J s with
  | false =>
    have HN : Hid (leastB es.length J s = false) := by rw [Hid, least_less, hv]; rfl
    rw [hv] at hcall
    go_enter Try.func129, Try.ntmps129
    go_wp2_with fail
    refine hcall.mono ?_
    rintro e1 w1 ⟨rfl, hb1⟩
    go_wp2_with fail
    go_returns
    exact ⟨retB HN.out.symm, hb1⟩
  | true =>
    have HN : Hid (leastB es.length J s = !lessB es.length J s) := by rw [Hid, least_less, hv]; rfl
    rw [hv] at hcall
    go_enter Try.func129, Try.ntmps129
    go_wp2_with fail
    refine hcall.mono ?_
    rintro e1 w1 ⟨rfl, hb1⟩
    have c0' := (hb1.cell (p := ⟨b0, 0, none⟩) hlt).trans c0
    have c1' := (hb1.cell (p := ⟨b0, 1, none⟩) hlt).trans c1
    have d0' := (hb1.cell (p := ⟨b1, 0, none⟩) hlt1).trans d0
    have hes' := hes.below hb1 (Nat.le_refl _)
    clear hcall c0 c1 d0
    go_wp2_with fail
    refine (worksWithLess_any F caps J n s A cap es _ (hes'.more hb1.size) hl hs hF (HQ.out.on hb1)).mono ?_
    rintro e2 w2 ⟨rfl, hb2⟩
    go_wp2_with fail
    go_returns
    exact ⟨retB HN.out.symm, hb1.trans (hb2.mono hb1.size)⟩

set_option maxHeartbeats 1000000 in
theorem leastStates_any (F : FuncId) (caps : Array Value) (J : Nat → Bool) (n : Int) (A : Option Addr) (cap : Nat) (es : List (Int × Int)) (w : World) (hes : EdgesIn w w.heap.size A es) (hl : es.length ≤ 9)
    (hF : ∀ (args : Array Value) (u : World), (callFunc F args).run Try.prog u = .ok (.enter F args) u) (hq : AskS F caps es.length J w) :
    Calls Try.prog 96 #[.agg #[.int .i64 n, .slice A es.length cap], .func (.func F) #[] caps] w (GotInts w (natI (leastL es.length J))) := by
  have hmf : ∀ (fn : Fn) (first cap : Array Value) (w : World), (Instr.makeFunc fn first cap).run Try.prog w = .ok (.func fn first cap) w := fun _ _ _ _ => rfl
  have W1 : Below (w.heap.size + 1) (w.alloc (.cells #[.int .i64 n, .slice A es.length cap] 53)) ((w.alloc (.cells #[.int .i64 n, .slice A es.length cap] 53)).alloc (.cells #[.func (.func F) #[] caps] 70)) := (Below.refl _ _).alloc (by simp) _
  have L0 := (ArgNet.start (cap := cap) (n := n) 53 hes).step W1 (by omega)
  have d0 : ((w.alloc (.cells #[.int .i64 n, .slice A es.length cap] 53)).alloc (.cells #[.func (.func F) #[] caps] 70)).cell? ⟨w.heap.size + 1, 0, none⟩ = some (.func (.func F) #[] caps) := by
    rw [World.cell?_alloc_at _ _ _ _ (by simp)]; rfl
  have hz : ((w.alloc (.cells #[.int .i64 n, .slice A es.length cap] 53)).alloc (.cells #[.func (.func F) #[] caps] 70)).heap.size = w.heap.size + 2 := by simp
  have HF := Lib.hid hF
  have HQ := Lib.hid hq
  clear hF hq
  obtain ⟨_, _, c0, c1, s0⟩ := id L0
  go_enter Try.func96, Try.ntmps96
  go_wp2_with fail
  refine (allSets_any es.length _ hl).mono ?_
  rintro e1 w1 ⟨A1, k1, rfl, own1, hb1⟩
  have L1 := L0.step hb1 L0.lt
  have d1 := (hb1.cell (p := ⟨w.heap.size + 1, 0, none⟩) (by rw [hz]; simp)).trans d0
  have sz := hb1.size
  rw [hz] at sz
  clear c0 c1 d0 hz W1 L0 hb1 s0
  have HS := sieve_any 129 #[.pointer (some ⟨w.heap.size + 1, 0, none⟩), .pointer (some ⟨w.heap.size, 0, none⟩)] (fun x => leastB es.length J x.toNat) A1 k1 (natI (List.range (2 ^ es.length))) w1 own1.ints
    (by rw [natI_length, List.length_range]; have := Nat.pow_le_pow_right (n := 2) (by omega) hl; omega) (fun _ _ => rfl) (fun u hu x hx => by
      obtain ⟨t, ht, rfl⟩ := List.mem_map.1 hx
      have ht' : t < 2 ^ es.length := by simpa using ht
      have L := L1.step hu (by have := L1.lt; omega)
      exact leastTest_any F caps J n t w.heap.size (w.heap.size + 1) A cap es u L.c0 L.c1 ((hu.cell (p := ⟨w.heap.size + 1, 0, none⟩) (by simp; omega)).trans d1) L.lt (by have := hu.size; omega) L.edges hl ht' HF.out (HQ.out.on L.below))
  have e : (natI (List.range (2 ^ es.length))).filter (fun x => leastB es.length J x.toNat) = natI (leastL es.length J) := by rw [natI_filter]; rfl
  rw [e] at HS
  have HS := Lib.hid HS
  clear e d1
  go_wp2_with fail
  refine HS.out.mono ?_
  rintro e2 w2 ⟨A2, k2, rfl, own2, hb2⟩
  go_wp2_with fail
  go_returns
  exact ⟨A2, k2, rfl, own2.more (by omega), L1.below.trans (hb2.mono (by have := L1.lt; omega))⟩
end Go.Proofs.Ytmdmmebekicpkaa

/- The fewest there, and how many are apart: the program's. -/
namespace Go.Proofs.Ytmdmmebekicpkaa
open Go.RowKit
set_option maxRecDepth 100000

theorem natI_at {xs : List Nat} {k : Nat} (h : k < xs.length) : (natI xs)[k]? = some ((xs.getD k 0 : Nat) : Int) := by
  refine natI_get ?_
  simp [List.getD, h]
theorem getD_mem {xs : List Nat} {k : Nat} (h : k < xs.length) : xs.getD k 0 ∈ xs := by
  have : xs.getD k 0 = xs[k] := by simp [List.getD, h]
  rw [this]; exact List.getElem_mem h

theorem max_if (z r : Nat) : (if (z : Int) < 1 + (r : Int) then 1 + (r : Int) else (z : Int)) = ((max z (1 + r) : Nat) : Int) := by
  rw [Nat.max_def]; split <;> split <;> omega
end Go.Proofs.Ytmdmmebekicpkaa

/- PathsOf, CutsOf, ShortestOf, ThinnestOf, ApartPaths of the program. -/
namespace Go.Proofs.Ytmdmmebekicpkaa
open Go.RowKit
set_option maxRecDepth 100000

theorem joined_state {n : Int} {es : List (Int × Int)} {a b : Int} (h : joinOkB n es a b = true) {t : Nat} (ht : t < 2 ^ es.length) : joinedB n es t a b = joinS es a.toNat b.toNat t := by
  have h' := joinOkB_iff.1 h
  have := joinS_is h'.1 (a := a.toNat) (b := b.toNat) (by omega) (by omega) ht
  rwa [show ((a.toNat : Nat) : Int) = a by omega, show ((b.toNat : Nat) : Int) = b by omega] at this
theorem natI_got {w w' : World} {xs : List Nat} {e : Ending} (h : GotInts w (natI xs) e w') : ∃ A c, e = .returned (.slice A xs.length c) ∧ OwnI w' w.heap.size (.slice A xs.length c) (natI xs) ∧ xs.length ≤ c ∧ Below w.heap.size w w' := by
  obtain ⟨A, c, h1, h2, h3⟩ := h
  have hc := h2.cap
  rw [natI_length] at h1 h2 hc
  exact ⟨A, c, h1, h2, hc, h3⟩

theorem pathsTest_any (n a b s : Int) (b0 b1 b2 : Nat) (A : Option Addr) (cap : Nat) (es : List (Int × Int)) (u : World) (c0 : u.cell? ⟨b0, 0, none⟩ = some (.int .i64 n)) (c1 : u.cell? ⟨b0, 1, none⟩ = some (.slice A es.length cap)) (c2 : u.cell? ⟨b1, 0, none⟩ = some (.int .i64 a)) (c3 : u.cell? ⟨b2, 0, none⟩ = some (.int .i64 b)) (hes : EdgesIn u u.heap.size A es) (hl : es.length ≤ 1048576) :
    Calls Try.prog 123 #[.int .i64 s, .pointer (some ⟨b0, 0, none⟩), .pointer (some ⟨b1, 0, none⟩), .pointer (some ⟨b2, 0, none⟩)] u fun e w' => e = .returned (.bool (joinedB n es s a b)) ∧ Below u.heap.size u w' := by
  go_enter Try.func123, Try.ntmps123
  go_wp2_with fail
  refine (joinedOk_any _ _ _ _ _ _ _ _ hes hl).mono ?_
  rintro e1 w1 ⟨rfl, hb1⟩
  go_wp2_with fail
  go_returns
  exact ⟨rfl, hb1⟩

theorem cutsTest_any (n a b : Int) (s l : Nat) (b0 b1 b2 b3 : Nat) (A : Option Addr) (cap : Nat) (es : List (Int × Int)) (u : World) (c0 : u.cell? ⟨b0, 0, none⟩ = some (.int .i64 n)) (c1 : u.cell? ⟨b0, 1, none⟩ = some (.slice A es.length cap)) (c2 : u.cell? ⟨b1, 0, none⟩ = some (.int .i64 a)) (c3 : u.cell? ⟨b2, 0, none⟩ = some (.int .i64 b))
    (c4 : u.cell? ⟨b3, 0, none⟩ = some (.int .i64 ((2 ^ l - 1 : Nat) : Int))) (hes : EdgesIn u u.heap.size A es) (hl : es.length ≤ 1048576) (h9 : l < 10) (hs : s < 2 ^ l) :
    Calls Try.prog 97 #[.int .i64 s, .pointer (some ⟨b0, 0, none⟩), .pointer (some ⟨b3, 0, none⟩), .pointer (some ⟨b1, 0, none⟩), .pointer (some ⟨b2, 0, none⟩)] u fun e w' => e = .returned (.bool (!joinedB n es (rest l s : Nat) a b)) ∧ Below u.heap.size u w' := by
  have h512 : s < 512 := Nat.lt_of_lt_of_le hs (Nat.pow_le_pow_right (n := 2) (by omega) (show l ≤ 9 by omega))
  have hbits := andNot_all l s h9 h512 hs
  have hr : 2 ^ l - 1 - s = rest l s := rfl
  rw [hr] at hbits
  generalize rest l s = r at *
  generalize 2 ^ l - 1 = Q at *
  clear hr hs
  go_enter Try.func97, Try.ntmps97
  go_wp2_with fail
  refine (joinedOk_any _ _ _ _ _ _ _ _ hes hl).mono ?_
  rintro e1 w1 ⟨rfl, hb1⟩
  go_wp2_with fail
  go_returns
  exact ⟨rfl, hb1⟩

theorem pathsOf_any (n a b : Int) (A : Option Addr) (cap : Nat) (es : List (Int × Int)) (w : World) (hes : EdgesIn w w.heap.size A es) (hl : es.length ≤ 1048576) :
    Calls Try.prog 88 #[.agg #[.int .i64 n, .slice A es.length cap], .int .i64 a, .int .i64 b] w (GotInts w (natI (pathsN n es a b))) := by
  have hmf : ∀ (fn : Fn) (first cap : Array Value) (w : World), (Instr.makeFunc fn first cap).run Try.prog w = .ok (.func fn first cap) w := fun _ _ _ _ => rfl
  have W3 : Below (w.heap.size + 1) (w.alloc (.cells #[.int .i64 n, .slice A es.length cap] 53)) (((w.alloc (.cells #[.int .i64 n, .slice A es.length cap] 53)).alloc (.cells #[.int .i64 a] 3)).alloc (.cells #[.int .i64 b] 3)) :=
    ((Below.refl _ _).alloc (by simp) _).alloc (by simp) _
  have L0 := (ArgNet.start (cap := cap) (n := n) 53 hes).step W3 (by omega)
  obtain ⟨_, _, c0, c1, s0⟩ := id L0
  have c2 : (((w.alloc (.cells #[.int .i64 n, .slice A es.length cap] 53)).alloc (.cells #[.int .i64 a] 3)).alloc (.cells #[.int .i64 b] 3)).cell? ⟨w.heap.size + 1, 0, none⟩ = some (.int .i64 a) := by
    rw [World.cell?_alloc_past _ _ _ (by simp), World.cell?_alloc_at _ _ _ _ (by simp)]; rfl
  have c3 : (((w.alloc (.cells #[.int .i64 n, .slice A es.length cap] 53)).alloc (.cells #[.int .i64 a] 3)).alloc (.cells #[.int .i64 b] 3)).cell? ⟨w.heap.size + 1 + 1, 0, none⟩ = some (.int .i64 b) := by
    rw [World.cell?_alloc_at _ _ _ _ (by simp)]; rfl
  have hz : (((w.alloc (.cells #[.int .i64 n, .slice A es.length cap] 53)).alloc (.cells #[.int .i64 a] 3)).alloc (.cells #[.int .i64 b] 3)).heap.size = w.heap.size + 1 + 1 + 1 := by simp
  by_cases hok : joinOkB n es a b = true
  · have HOK := Lib.hid hok
    have h9 := joinOk_nine hok
    have HP : Hid (pathsN n es a b = leastL es.length (joinS es a.toNat b.toNat)) := if_pos hok
    clear hok
    go_enter Try.func88, Try.ntmps88
    go_wp2_with fail
    refine (pairOk_any _ _ _ _ _ _ _ L0.edges hl).mono ?_
    rintro e1 w1 ⟨rfl, hb1⟩
    rw [HOK.out]
    have L1 := L0.step hb1 L0.lt
    have d2 := (hb1.cell (p := ⟨w.heap.size + 1, 0, none⟩) (by rw [hz]; simp)).trans c2
    have d3 := (hb1.cell (p := ⟨w.heap.size + 1 + 1, 0, none⟩) (by rw [hz]; simp)).trans c3
    have sz := hb1.size
    rw [hz] at sz
    clear hb1 L0 c0 c1 c2 c3 s0 W3 hz
    have HQ : Hid (AskS 123 #[.pointer (some ⟨w.heap.size, 0, none⟩), .pointer (some ⟨w.heap.size + 1, 0, none⟩), .pointer (some ⟨w.heap.size + 1 + 1, 0, none⟩)] es.length (joinS es a.toNat b.toNat) w1) := by
      intro u hu t ht
      have L := L1.step hu L1.lt
      have hj := joined_state HOK.out ht
      rw [← hj]
      exact pathsTest_any n a b t w.heap.size (w.heap.size + 1) (w.heap.size + 1 + 1) A cap es u L.c0 L.c1 ((hu.cell (p := ⟨w.heap.size + 1, 0, none⟩) (by simp; omega)).trans d2) ((hu.cell (p := ⟨w.heap.size + 1 + 1, 0, none⟩) (by simp; omega)).trans d3) L.edges hl
    clear d2 d3
    obtain ⟨_, _, c0, c1, s1⟩ := id L1
    have HL := Lib.hid (leastStates_any 123 _ _ n A cap es w1 L1.edges h9 (fun _ _ => rfl) HQ.out)
    go_wp2_with fail
    refine HL.out.mono ?_
    rintro e2 w2 ⟨A2, k2, rfl, own, hb2⟩
    go_wp2_with fail
    go_returns
    exact ⟨A2, k2, by rw [HP.out]; rfl, by rw [HP.out]; exact own.more (by omega), L1.below.trans (hb2.mono (by omega))⟩
  · have HL : Hid (pathsN n es a b = []) := if_neg hok
    have HN : Hid (joinOkB n es a b = false) := by simpa [Hid] using hok
    clear hok
    go_enter Try.func88, Try.ntmps88
    go_wp2_with fail
    refine (pairOk_any _ _ _ _ _ _ _ L0.edges hl).mono ?_
    rintro e1 w1 ⟨rfl, hb1⟩
    rw [HN.out]
    have L1 := L0.step hb1 L0.lt
    go_wp2_with fail
    go_returns
    exact ⟨none, 0, by rw [HL.out]; rfl, by rw [HL.out]; exact OwnI.nil _ _, L1.below⟩
set_option maxHeartbeats 1000000 in
theorem cutsOf_any (n a b : Int) (A : Option Addr) (cap : Nat) (es : List (Int × Int)) (w : World) (hes : EdgesIn w w.heap.size A es) (hl : es.length ≤ 1048576) :
    Calls Try.prog 48 #[.agg #[.int .i64 n, .slice A es.length cap], .int .i64 a, .int .i64 b] w (GotInts w (natI (cutsN n es a b))) := by
  have hmf : ∀ (fn : Fn) (first cap : Array Value) (w : World), (Instr.makeFunc fn first cap).run Try.prog w = .ok (.func fn first cap) w := fun _ _ _ _ => rfl
  have W3 : Below (w.heap.size + 1) (w.alloc (.cells #[.int .i64 n, .slice A es.length cap] 53)) (((w.alloc (.cells #[.int .i64 n, .slice A es.length cap] 53)).alloc (.cells #[.int .i64 a] 3)).alloc (.cells #[.int .i64 b] 3)) :=
    ((Below.refl _ _).alloc (by simp) _).alloc (by simp) _
  have L0 := (ArgNet.start (cap := cap) (n := n) 53 hes).step W3 (by omega)
  obtain ⟨_, _, c0, c1, s0⟩ := id L0
  have c2 : (((w.alloc (.cells #[.int .i64 n, .slice A es.length cap] 53)).alloc (.cells #[.int .i64 a] 3)).alloc (.cells #[.int .i64 b] 3)).cell? ⟨w.heap.size + 1, 0, none⟩ = some (.int .i64 a) := by
    rw [World.cell?_alloc_past _ _ _ (by simp), World.cell?_alloc_at _ _ _ _ (by simp)]; rfl
  have c3 : (((w.alloc (.cells #[.int .i64 n, .slice A es.length cap] 53)).alloc (.cells #[.int .i64 a] 3)).alloc (.cells #[.int .i64 b] 3)).cell? ⟨w.heap.size + 1 + 1, 0, none⟩ = some (.int .i64 b) := by
    rw [World.cell?_alloc_at _ _ _ _ (by simp)]; rfl
  have hz : (((w.alloc (.cells #[.int .i64 n, .slice A es.length cap] 53)).alloc (.cells #[.int .i64 a] 3)).alloc (.cells #[.int .i64 b] 3)).heap.size = w.heap.size + 1 + 1 + 1 := by simp
  by_cases hok : joinOkB n es a b = true
  · have HOK := Lib.hid hok
    have h9 := joinOk_nine hok
    have HP : Hid (cutsN n es a b = leastL es.length (dual es.length (joinS es a.toNat b.toNat))) := if_pos hok
    clear hok
    go_enter Try.func48, Try.ntmps48
    go_wp2_with fail
    refine (pairOk_any _ _ _ _ _ _ _ L0.edges hl).mono ?_
    rintro e1 w1 ⟨rfl, hb1⟩
    rw [HOK.out]
    have L1 := L0.step hb1 L0.lt
    have d2 := (hb1.cell (p := ⟨w.heap.size + 1, 0, none⟩) (by rw [hz]; simp)).trans c2
    have d3 := (hb1.cell (p := ⟨w.heap.size + 1 + 1, 0, none⟩) (by rw [hz]; simp)).trans c3
    have sz := hb1.size
    rw [hz] at sz
    clear hb1 L0 c0 c1 c2 c3 s0 W3 hz
    obtain ⟨_, _, c0, c1, s1⟩ := id L1
    have hsc := stateCount_any n A cap es w1 h9
    have hpow := Nat.one_le_two_pow (n := es.length)
    have hpow9 : 2 ^ es.length ≤ 512 := Nat.pow_le_pow_right (n := 2) (by omega) h9
    obtain ⟨P, hP⟩ : ∃ P, 2 ^ es.length = P := ⟨_, rfl⟩
    rw [hP] at hsc hpow hpow9
    have HPw := Lib.hid hP
    clear hP
    have wq : IntKind.i64.wrap ((P : Int) - 1) = ((P - 1 : Nat) : Int) := by rw [IntWalk.i64_in _ (by omega)]; omega
    go_wp2_with fail
    refine hsc.mono ?_
    rintro e2 w2 ⟨rfl, hb2⟩
    have L2 := L1.step hb2 L1.lt
    have f2 := (hb2.cell (p := ⟨w.heap.size + 1, 0, none⟩) (by simp; omega)).trans d2
    have f3 := (hb2.cell (p := ⟨w.heap.size + 1 + 1, 0, none⟩) (by simp; omega)).trans d3
    have sz2 := hb2.size
    have hbx := (Below.refl w2.heap.size w2).alloc (Nat.le_refl _) (.cells #[.int .i64 ((P - 1 : Nat) : Int)] 3)
    have L3 := L2.step hbx L2.lt
    have g2 := (hbx.cell (p := ⟨w.heap.size + 1, 0, none⟩) (by simp; omega)).trans f2
    have g3 := (hbx.cell (p := ⟨w.heap.size + 1 + 1, 0, none⟩) (by simp; omega)).trans f3
    have g4 : (w2.alloc (.cells #[.int .i64 ((P - 1 : Nat) : Int)] 3)).cell? ⟨w2.heap.size, 0, none⟩ = some (.int .i64 ((P - 1 : Nat) : Int)) := by rw [World.cell?_alloc_at _ _ _ _ (by simp)]; rfl
    clear hsc hb2 hbx d2 d3 f2 f3 c0 c1 L1
    have HQ : Hid (AskS 97 #[.pointer (some ⟨w.heap.size, 0, none⟩), .pointer (some ⟨w2.heap.size, 0, none⟩), .pointer (some ⟨w.heap.size + 1, 0, none⟩), .pointer (some ⟨w.heap.size + 1 + 1, 0, none⟩)] es.length (dual es.length (joinS es a.toNat b.toNat)) (w2.alloc (.cells #[.int .i64 ((P - 1 : Nat) : Int)] 3))) := by
      intro u hu t ht
      have L := L3.step hu L3.lt
      have hj := joined_state HOK.out (rest_lt es.length t)
      have hd : dual es.length (joinS es a.toNat b.toNat) t = !joinedB n es (rest es.length t : Nat) a b := by rw [hj]; rfl
      rw [hd]
      exact cutsTest_any n a b t es.length w.heap.size (w.heap.size + 1) (w.heap.size + 1 + 1) w2.heap.size A cap es u L.c0 L.c1 ((hu.cell (p := ⟨w.heap.size + 1, 0, none⟩) (by simp; omega)).trans g2) ((hu.cell (p := ⟨w.heap.size + 1 + 1, 0, none⟩) (by simp; omega)).trans g3)
        (by rw [HPw.out]; exact (hu.cell (p := ⟨w2.heap.size, 0, none⟩) (by simp)).trans g4) L.edges hl (by omega) ht
    clear g2 g3 g4
    obtain ⟨_, _, c0, c1, s2⟩ := id L3
    have HL := Lib.hid (leastStates_any 97 _ _ n A cap es _ L3.edges h9 (fun _ _ => rfl) HQ.out)
    go_wp2_with fail
    refine HL.out.mono ?_
    rintro e3 w3 ⟨A3, k3, rfl, own, hb3⟩
    go_wp2_with fail
    go_returns
    exact ⟨A3, k3, by rw [HP.out]; rfl, by rw [HP.out]; exact own.more (by simp; omega), L3.below.trans (hb3.mono (by simp; omega))⟩
  · have HL : Hid (cutsN n es a b = []) := if_neg hok
    have HN : Hid (joinOkB n es a b = false) := by simpa [Hid] using hok
    clear hok
    go_enter Try.func48, Try.ntmps48
    go_wp2_with fail
    refine (pairOk_any _ _ _ _ _ _ _ L0.edges hl).mono ?_
    rintro e1 w1 ⟨rfl, hb1⟩
    rw [HN.out]
    have L1 := L0.step hb1 L0.lt
    go_wp2_with fail
    go_returns
    exact ⟨none, 0, by rw [HL.out]; rfl, by rw [HL.out]; exact OwnI.nil _ _, L1.below⟩

end Go.Proofs.Ytmdmmebekicpkaa
