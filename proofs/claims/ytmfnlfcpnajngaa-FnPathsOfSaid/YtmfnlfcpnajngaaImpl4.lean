/- All states, least states: the program's. -/
import Derived.Test.YtmfnlfcpnajngaaSieve
import Derived.Test.YtmfnlfcpnajngaaList4
import Derived.Test.YtmfnlfcpnajngaaImplCnt
namespace Go.Proofs.Ytmfnlfcpnajngaa
open Go.RowKit
set_option maxRecDepth 100000

def upTo (k j : Nat) : Int := if j < k then (j : Int) else 0
theorem upTo_zero (P : Nat) : rowL (upTo 0) P = List.replicate P 0 := by
  rw [rowL_zero]; exact rowL_congr fun x _ => by simp [upTo]
theorem upTo_set (P k : Nat) : (rowL (upTo k) P).set k (k : Int) = rowL (upTo (k + 1)) P := by
  rw [rowL_set]
  refine rowL_congr fun x _ => ?_
  unfold updI upTo
  by_cases h : x = k
  · subst h; simp
  · rw [if_neg h]
    by_cases h2 : x < k
    · rw [if_pos h2, if_pos (by omega)]
    · rw [if_neg h2, if_neg (by omega)]
theorem upTo_all (P : Nat) : rowL (upTo P) P = natI (List.range P) := by
  apply List.ext_getElem?
  intro j
  by_cases hj : j < P
  · rw [rowL_get _ hj]; simp [natI, hj, upTo]
  · rw [List.getElem?_eq_none (by simp [rowL]; omega), List.getElem?_eq_none (by simp [natI]; omega)]

set_option maxHeartbeats 1000000 in
theorem allStates_any (n : Int) (A : Option Addr) (cap : Nat) (es : List (Int × Int)) (w : World) (hes : EdgesIn w w.heap.size A es) (hl : es.length ≤ 9) :
    Calls Try.prog 71 #[.agg #[.int .i64 n, .slice A es.length cap]] w (GotInts w (natI (List.range (2 ^ es.length)))) := by
  have L0 := ArgNet.start (cap := cap) (n := n) 25 hes
  have hsc := fun v => stateCount_any n A cap es v hl
  obtain ⟨P, hP, p1, p2, hp3, hp4⟩ := pow_named hl
  rw [hP] at hsc ⊢
  have HSC := Lib.hid hsc
  clear hsc hP hp3 hp4
  obtain ⟨i0, hi0, hz0, hz1, hz2⟩ := info_parts int_info
  obtain ⟨_, _, c0, c1, s0⟩ := id L0
  go_enter Try.func71, Try.ntmps71
  go_wp2_with fail
  refine (HSC.out _).mono ?_
  rintro e1 w1 ⟨rfl, hb1⟩
  have L1 := L0.step hb1 L0.lt
  clear c0 c1 hb1 L0
  go_wp2_with (at_make; refine wpList_make_full _ rfl _ _ 28 rfl (w.heap.size + 1) 3 i0 _ 1 Try.underlying28 hi0 hz0 hz1 .i64 .i64 P P P rfl rfl rfl rfl (by rw [hz2]; omega) (by simp [maxLen]; omega) (by have := L1.lt; omega) ?_; intro w2 hown2 hg2)
  have hst : OwnI w2 (w.heap.size + 1) (.slice (some ⟨w1.heap.size, 0, none⟩) P P) (rowL (upTo 0) P) := by
    rw [upTo_zero]
    unfold OwnI; rw [List.length_replicate, ← madeCells_ints]; exact hown2
  have hb2 : Below (w.heap.size + 1) w1 w2 := (Below.refl _ _).grown hg2 (by have := L1.lt; omega) (by simp)
  have B2 := L1.below.trans (hb2.mono (by omega))
  clear hown2 hg2 hz1 hz2 hi0 hz0 hb2 L1
  generalize w1.heap.size = g at *
  go_wp2_with fail
  go_loopw [4, 10] (fun _ i wr => ∃ k : Nat, k ≤ P ∧ i = .int .i64 (k : Nat) ∧ OwnI wr (w.heap.size + 1) (.slice (some ⟨g, 0, none⟩) P P) (rowL (upTo k) P) ∧ Below w.heap.size w wr) (fun _ i _ => P - (intOf i).toNat)
  case atStart => exact ⟨0, by omega, rfl, hst, B2⟩
  case round =>
    clear hst B2
    obtain ⟨k, hk, rfl, own, hb⟩ := hrel
    by_cases hlt : k < P
    · obtain ⟨c1, f1⟩ := own.slot (k := k) hlt
      have hst := own.store k (k : Int)
      rw [upTo_set] at hst
      have hg := own.ge g rfl
      have HS := Lib.hid hst
      clear own hst
      go_wp2_with fail
      go_roundw
      case rel => exact ⟨k + 1, by omega, by go_num, HS.out, hb.setCell (by simp; omega) _⟩
      case measure => simp [intOf]; omega
    · obtain rfl : k = P := by omega
      rw [upTo_all] at own
      have HL : Hid ((natI (List.range k)).length = k) := by simp [Hid, natI]
      go_wp2_with fail
      go_returns
      exact ⟨some ⟨g, 0, none⟩, k, by rw [HL.out]; rfl, by rw [HL.out]; exact own.more (by omega), hb⟩

/-- A function's value answers J for each state. -/
def AskS (F : FuncId) (caps : Array Value) (l : Nat) (J : Nat → Bool) (w : World) : Prop :=
  ∀ u, Below w.heap.size w u → ∀ t : Nat, t < 2 ^ l → Calls Try.prog F (#[.int .i64 (t : Int)] ++ caps) u fun e w' => e = .returned (.bool (J t)) ∧ Below u.heap.size u w'
theorem AskS.on {F : FuncId} {caps : Array Value} {l : Nat} {J : Nat → Bool} {w w' : World} (h : AskS F caps l J w) (hb : Below w.heap.size w w') : AskS F caps l J w' :=
  fun u hu => h u (hb.trans (hu.mono hb.size))

set_option maxHeartbeats 1000000 in
theorem worksWithLess_any (F : FuncId) (caps : Array Value) (J : Nat → Bool) (n : Int) (s : Nat) (A : Option Addr) (cap : Nat) (es : List (Int × Int)) (w : World) (hes : EdgesIn w w.heap.size A es) (hl : es.length ≤ 9) (hs : s < 2 ^ es.length)
    (hF : ∀ (args : Array Value) (u : World), (callFunc F args).run Try.prog u = .ok (.enter F args) u) (hq : AskS F caps es.length J w) :
    Calls Try.prog 73 #[.agg #[.int .i64 n, .slice A es.length cap], .int .i64 s, .func (.func F) #[] caps] w fun e w' => e = .returned (.bool (lessB es.length J s)) ∧ Below w.heap.size w w' := by
  have L0 := ArgNet.start (cap := cap) (n := n) 25 hes
  have h512 : s < 512 := Nat.lt_of_lt_of_le hs (Nat.pow_le_pow_right (n := 2) (by omega) hl)
  have HQ : Hid (∀ u, Below w.heap.size w u → ∀ k, k < es.length → s.testBit k = true → Calls Try.prog F (#[.int .i64 ((s - 2 ^ k : Nat) : Int)] ++ caps) u fun e w' => e = .returned (.bool (J (s - 2 ^ k))) ∧ Below u.heap.size u w') :=
    fun u hu k _ _ => hq u hu _ (Nat.lt_of_le_of_lt (Nat.sub_le _ _) hs)
  have hcv : IntKind.u64.wrap (s : Int) = (s : Int) := by unfold IntKind.wrap; simp [IntKind.bits, IntKind.signed]; omega
  obtain ⟨_, _, c0, c1, s0⟩ := id L0
  have B0 := L0.below
  obtain ⟨m, hm⟩ : ∃ m, es.length = m := ⟨_, rfl⟩
  rw [hm] at c1 B0 HQ hl hs ⊢
  clear hm hq hes L0
  go_enter Try.func73, Try.ntmps73
  go_wp2_with fail
  go_loopw [7, 11] (fun _ i wr => ∃ k : Nat, k ≤ m ∧ i = .int .i64 (k : Nat) ∧ ((List.range k).any fun k => s.testBit k && J (s - 2 ^ k)) = false ∧ Below w.heap.size w wr) (fun _ i _ => m - (intOf i).toNat)
  case atStart => exact ⟨0, by omega, rfl, rfl, B0⟩
  case round =>
    clear B0 c0 c1 s0
    obtain ⟨k, hk, rfl, hno, hb⟩ := hrel
    by_cases hlt : k < m
    · have hM : ∀ v, Calls Try.prog 77 #[.int .u64 s, .int .i64 k] v fun e w' => e = .returned (.bool (s.testBit k)) ∧ v = w' := fun v => has_any s k v h512 (by omega)
      cases ht : s.testBit k with
      | false =>
        rw [ht] at hM
        have hnext : ((List.range (k + 1)).any fun k => s.testBit k && J (s - 2 ^ k)) = false := by rw [lessB_to, hno, ht]; rfl
        have HN := Lib.hid hnext
        clear hno hnext
        go_wp2_with fail
        refine (hM _).mono ?_
        rintro e1 w1 ⟨rfl, rfl⟩
        go_wp2_with fail
        go_roundw
        case rel => exact ⟨k + 1, by omega, by go_num, HN.out, hb⟩
        case measure => simp [intOf]; omega
      | true =>
        rw [ht] at hM
        have hcall := HQ.out wr hb k hlt ht
        have hbits := andNot_one s k h512 (by omega) ht
        cases hv : J (s - 2 ^ k) with
        | false =>
          have hnext : ((List.range (k + 1)).any fun k => s.testBit k && J (s - 2 ^ k)) = false := by rw [lessB_to, hno, ht, hv]; rfl
          have HN := Lib.hid hnext
          rw [hv] at hcall
          clear hno hnext
          go_wp2_with fail
          refine (hM _).mono ?_
          rintro e1 w1 ⟨rfl, rfl⟩
          go_wp2_with fail
          refine hcall.mono ?_
          rintro e2 w2 ⟨rfl, hb2⟩
          have hb3 := hb.trans (hb2.mono hb.size)
          clear hcall hb2 hb
          go_wp2_with fail
          go_roundw
          case rel => exact ⟨k + 1, by omega, by go_num, HN.out, hb3⟩
          case measure => simp [intOf]; omega
        | true =>
          have HN : Hid (lessB m J s = true) := lessB_one hlt (by rw [ht, hv]; rfl)
          rw [hv] at hcall
          clear hno
          go_wp2_with fail
          refine (hM _).mono ?_
          rintro e1 w1 ⟨rfl, rfl⟩
          go_wp2_with fail
          refine hcall.mono ?_
          rintro e2 w2 ⟨rfl, hb2⟩
          have hb3 := hb.trans (hb2.mono hb.size)
          clear hcall hb2 hb
          go_wp2_with fail
          go_returns
          exact ⟨retB HN.out.symm, hb3⟩
    · obtain rfl : k = m := by omega
      have HN : Hid (lessB k J s = false) := hno
      clear hno
      go_wp2_with fail
      go_returns
      exact ⟨retB HN.out.symm, hb⟩

theorem leastTest_any (F : FuncId) (caps : Array Value) (J : Nat → Bool) (n : Int) (s b0 b1 : Nat) (A : Option Addr) (cap : Nat) (es : List (Int × Int)) (u : World) (c0 : u.cell? ⟨b0, 0, none⟩ = some (.int .i64 n)) (c1 : u.cell? ⟨b0, 1, none⟩ = some (.slice A es.length cap))
    (d0 : u.cell? ⟨b1, 0, none⟩ = some (.func (.func F) #[] caps)) (hlt : b0 < u.heap.size) (hlt1 : b1 < u.heap.size) (hes : EdgesIn u u.heap.size A es) (hl : es.length ≤ 9) (hs : s < 2 ^ es.length)
    (hF : ∀ (args : Array Value) (u : World), (callFunc F args).run Try.prog u = .ok (.enter F args) u) (hq : AskS F caps es.length J u) :
    Calls Try.prog 72 #[.int .i64 s, .pointer (some ⟨b1, 0, none⟩), .pointer (some ⟨b0, 0, none⟩)] u fun e w' => e = .returned (.bool (leastB es.length J s)) ∧ Below u.heap.size u w' := by
  have hcall := hq u (Below.refl _ _) s hs
  have HQ := Lib.hid hq
  clear hq
  cases hv : J s with
  | false =>
    have HN : Hid (leastB es.length J s = false) := by rw [Hid, least_less, hv]; rfl
    rw [hv] at hcall
    go_enter Try.func72, Try.ntmps72
    go_wp2_with fail
    refine hcall.mono ?_
    rintro e1 w1 ⟨rfl, hb1⟩
    go_wp2_with fail
    go_returns
    exact ⟨retB HN.out.symm, hb1⟩
  | true =>
    have HN : Hid (leastB es.length J s = !lessB es.length J s) := by rw [Hid, least_less, hv]; rfl
    rw [hv] at hcall
    go_enter Try.func72, Try.ntmps72
    go_wp2_with fail
    refine hcall.mono ?_
    rintro e1 w1 ⟨rfl, hb1⟩
    have c0' := (hb1.cell (p := ⟨b0, 0, none⟩) hlt).trans c0
    have c1' := (hb1.cell (p := ⟨b0, 1, none⟩) hlt).trans c1
    have d0' := (hb1.cell (p := ⟨b1, 0, none⟩) hlt1).trans d0
    have hes' := hes.below hb1 (Nat.le_refl _)
    clear hcall c0 c1 d0
    go_wp2_with fail
    refine (worksWithLess_any F caps J n s A cap es _ (hes'.more hb1.size) hl hs hF (HQ.out.on hb1)).mono ?_
    rintro e2 w2 ⟨rfl, hb2⟩
    go_wp2_with fail
    go_returns
    exact ⟨retB HN.out.symm, hb1.trans (hb2.mono hb1.size)⟩

set_option maxHeartbeats 1000000 in
theorem leastStates_any (F : FuncId) (caps : Array Value) (J : Nat → Bool) (n : Int) (A : Option Addr) (cap : Nat) (es : List (Int × Int)) (w : World) (hes : EdgesIn w w.heap.size A es) (hl : es.length ≤ 9)
    (hF : ∀ (args : Array Value) (u : World), (callFunc F args).run Try.prog u = .ok (.enter F args) u) (hq : AskS F caps es.length J w) :
    Calls Try.prog 45 #[.agg #[.int .i64 n, .slice A es.length cap], .func (.func F) #[] caps] w (GotInts w (natI (leastL es.length J))) := by
  have hmf : ∀ (fn : Fn) (first cap : Array Value) (w : World), (Instr.makeFunc fn first cap).run Try.prog w = .ok (.func fn first cap) w := fun _ _ _ _ => rfl
  have W1 : Below (w.heap.size + 1) (w.alloc (.cells #[.int .i64 n, .slice A es.length cap] 25)) ((w.alloc (.cells #[.int .i64 n, .slice A es.length cap] 25)).alloc (.cells #[.func (.func F) #[] caps] 52)) := (Below.refl _ _).alloc (by simp) _
  have L0 := (ArgNet.start (cap := cap) (n := n) 25 hes).step W1 (by omega)
  have d0 : ((w.alloc (.cells #[.int .i64 n, .slice A es.length cap] 25)).alloc (.cells #[.func (.func F) #[] caps] 52)).cell? ⟨w.heap.size + 1, 0, none⟩ = some (.func (.func F) #[] caps) := by
    rw [World.cell?_alloc_at _ _ _ _ (by simp)]; rfl
  have hz : ((w.alloc (.cells #[.int .i64 n, .slice A es.length cap] 25)).alloc (.cells #[.func (.func F) #[] caps] 52)).heap.size = w.heap.size + 2 := by simp
  have HF := Lib.hid hF
  have HQ := Lib.hid hq
  clear hF hq
  obtain ⟨_, _, c0, c1, s0⟩ := id L0
  go_enter Try.func45, Try.ntmps45
  go_wp2_with fail
  refine (allStates_any _ _ _ _ _ L0.edges hl).mono ?_
  rintro e1 w1 ⟨A1, k1, rfl, own1, hb1⟩
  have L1 := L0.step hb1 L0.lt
  have d1 := (hb1.cell (p := ⟨w.heap.size + 1, 0, none⟩) (by rw [hz]; simp)).trans d0
  have sz := hb1.size
  rw [hz] at sz
  clear c0 c1 d0 hz W1 L0 hb1 s0
  have HS := sieve_any 72 #[.pointer (some ⟨w.heap.size + 1, 0, none⟩), .pointer (some ⟨w.heap.size, 0, none⟩)] (fun x => leastB es.length J x.toNat) A1 k1 (natI (List.range (2 ^ es.length))) w1 own1.ints
    (by rw [natI_length, List.length_range]; have := Nat.pow_le_pow_right (n := 2) (by omega) hl; omega) (fun _ _ => rfl) (fun u hu x hx => by
      obtain ⟨t, ht, rfl⟩ := List.mem_map.1 hx
      have ht' : t < 2 ^ es.length := by simpa using ht
      have L := L1.step hu (by have := L1.lt; omega)
      exact leastTest_any F caps J n t w.heap.size (w.heap.size + 1) A cap es u L.c0 L.c1 ((hu.cell (p := ⟨w.heap.size + 1, 0, none⟩) (by simp; omega)).trans d1) L.lt (by have := hu.size; omega) L.edges hl ht' HF.out (HQ.out.on L.below))
  have e : (natI (List.range (2 ^ es.length))).filter (fun x => leastB es.length J x.toNat) = natI (leastL es.length J) := by rw [natI_filter]; rfl
  rw [e] at HS
  have HS := Lib.hid HS
  clear e d1
  go_wp2_with fail
  refine HS.out.mono ?_
  rintro e2 w2 ⟨A2, k2, rfl, own2, hb2⟩
  go_wp2_with fail
  go_returns
  exact ⟨A2, k2, rfl, own2.more (by omega), L1.below.trans (hb2.mono (by have := L1.lt; omega))⟩
end Go.Proofs.Ytmfnlfcpnajngaa
