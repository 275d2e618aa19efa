/- Families: what the laws of chapter 8 ask. -/
import Derived.Test.YtlcgbmeneajfoaaFamV
namespace Go.Proofs.Ytlcgbmeneajfoaa
set_option maxRecDepth 100000

def famAnd (T : Nat) (ns ms : List Nat) : List Nat := leastL T (fun s => famB ns s && famB ms s)
def famOr (T : Nat) (ns ms : List Nat) : List Nat := leastL T (fun s => famB ns s || famB ms s)
def famAp (T : Nat) (ns ms : List Nat) : List Nat := leastL T (apB T (famB ns) (famB ms))
def famBl (T : Nat) (ns : List Nat) : List Nat := leastL T (dual T (famB ns))
def famOf (T : Nat) (ls : List Nat) : List Nat := leastL T (famB ls)
theorem up_and {T : Nat} {A B : Nat → Bool} (hA : UpS T A) (hB : UpS T B) : UpS T (fun s => A s && B s) := fun s t hs ht hst h => by
  simp only [Bool.and_eq_true] at h ⊢
  exact ⟨hA s t hs ht hst h.1, hB s t hs ht hst h.2⟩
theorem up_or {T : Nat} {A B : Nat → Bool} (hA : UpS T A) (hB : UpS T B) : UpS T (fun s => A s || B s) := fun s t hs ht hst h => by
  simp only [Bool.or_eq_true] at h ⊢
  exact h.imp (hA s t hs ht hst) (hB s t hs ht hst)
theorem up_ap {T : Nat} {A B : Nat → Bool} : UpS T (apB T A B) := fun s t _ _ hst h => by
  obtain ⟨p, q, h1, h2, h3, h4, h5, h6, h7⟩ := apB_iff.1 h
  exact apB_iff.2 ⟨p, q, h1, h2, h3, sub_trans h4 hst, sub_trans h5 hst, h6, h7⟩
theorem famAnd_ok (T : Nat) (hT : T ≤ 9) (ns ms : List Nat) : OkN T (famAnd T ns ms) := leastL_ok hT (up_and (famB_up T ns) (famB_up T ms))
theorem famOr_ok (T : Nat) (hT : T ≤ 9) (ns ms : List Nat) : OkN T (famOr T ns ms) := leastL_ok hT (up_or (famB_up T ns) (famB_up T ms))
theorem famAp_ok (T : Nat) (hT : T ≤ 9) (ns ms : List Nat) : OkN T (famAp T ns ms) := leastL_ok hT up_ap
theorem famBl_ok (T : Nat) (hT : T ≤ 9) (ns : List Nat) : OkN T (famBl T ns) := leastL_ok hT (famB_up T ns).dual
theorem famOf_ok (T : Nat) (hT : T ≤ 9) (ls : List Nat) : OkN T (famOf T ls) := leastL_ok hT (famB_up T ls)
theorem famAnd_in {T : Nat} (hT : T ≤ 9) (ns ms : List Nat) {s : Nat} (hs : s < 2 ^ T) : famB (famAnd T ns ms) s = (famB ns s && famB ms s) := famB_least hT (up_and (famB_up T ns) (famB_up T ms)) hs
theorem famOr_in {T : Nat} (hT : T ≤ 9) (ns ms : List Nat) {s : Nat} (hs : s < 2 ^ T) : famB (famOr T ns ms) s = (famB ns s || famB ms s) := famB_least hT (up_or (famB_up T ns) (famB_up T ms)) hs
theorem famAp_in {T : Nat} (hT : T ≤ 9) (ns ms : List Nat) {s : Nat} (hs : s < 2 ^ T) : famB (famAp T ns ms) s = apB T (famB ns) (famB ms) s := famB_least hT up_ap hs
theorem famBl_in {T : Nat} (hT : T ≤ 9) (ns : List Nat) {s : Nat} (hs : s < 2 ^ T) : famB (famBl T ns) s = !famB ns (rest T s) := famB_least hT (famB_up T ns).dual hs
theorem famOf_in {T : Nat} (hT : T ≤ 9) (ls : List Nat) {s : Nat} (hs : s < 2 ^ T) : famB (famOf T ls) s = famB ls s := famB_least hT (famB_up T ls) hs
/-- How many states a family has. -/
def famN (T : Nat) (ns : List Nat) : Nat := inAll T (famB ns)
theorem inAll_congr {T : Nat} {A B : Nat → Bool} (h : ∀ s, s < 2 ^ T → A s = B s) : inAll T A = inAll T B :=
  Nat.le_antisymm (inAll_mono fun s hs ha => by rw [← h s hs]; exact ha) (inAll_mono fun s hs ha => by rw [h s hs]; exact ha)
theorem famN_le (T : Nat) (ns : List Nat) : famN T ns ≤ 2 ^ T := by
  have := List.countP_le_length (p := famB ns) (l := List.range (2 ^ T))
  rwa [List.length_range] at this
/-- A family and its blocker have all states. -/
theorem famN_block {T : Nat} (hT : T ≤ 9) (ns : List Nat) : famN T ns + famN T (famBl T ns) = 2 ^ T := by
  rw [show famN T (famBl T ns) = inAll T (dual T (famB ns)) from inAll_congr fun _ hs => by rw [famBl_in hT ns hs]; rfl]
  exact inAll_dual T (famB ns)
theorem famN_zero {T : Nat} {ns : List Nat} (h : OkN T ns) : decide (famN T ns = 0) = decide (ns.length = 0) := by
  rw [Bool.eq_iff_iff, decide_eq_true_eq, decide_eq_true_eq, List.length_eq_zero_iff]
  constructor
  · intro h0
    cases ns with
    | nil => rfl
    | cons p ps =>
      have hp := h.lt p (by simp)
      have : 0 < famN T (p :: ps) := List.countP_pos_iff.2 ⟨p, by simpa using hp, famB_iff.2 ⟨p, by simp, Nat.and_self p⟩⟩
      omega
  · rintro rfl
    exact List.countP_eq_zero.2 fun x _ => by simp [famB]
theorem block_block {T : Nat} (hT : T ≤ 9) {ns : List Nat} (h : OkN T ns) : famBl T (famBl T ns) = ns :=
  fam_same hT (famBl_ok T hT _) h fun s hs => by
    rw [famBl_in hT _ hs, famBl_in hT _ (rest_lt T s), rest_rest hs, Bool.not_not]
theorem famAnd_swap (T : Nat) (ns ms : List Nat) : famAnd T ms ns = famAnd T ns ms := leastL_congr fun _ _ => Bool.and_comm _ _
theorem famAnd_more {T : Nat} (hT : T ≤ 9) (ns ms : List Nat) : famN T ns * famN T ms ≤ famN T (famAnd T ns ms) * 2 ^ T := by
  rw [show famN T (famAnd T ns ms) = inAll T (fun s => famB ns s && famB ms s) from inAll_congr fun s hs => famAnd_in hT ns ms hs]
  exact harris T _ _ (famB_up T ns) (famB_up T ms)
theorem famOr_block {T : Nat} (hT : T ≤ 9) (ns ms : List Nat) : famBl T (famOr T ns ms) = famAnd T (famBl T ns) (famBl T ms) :=
  fam_same hT (famBl_ok T hT _) (famAnd_ok T hT _ _) fun s hs => by
    rw [famBl_in hT _ hs, famAnd_in hT _ _ hs, famBl_in hT _ hs, famBl_in hT _ hs, famOr_in hT _ _ (rest_lt T s), Bool.not_or]
theorem famOr_sum {T : Nat} (hT : T ≤ 9) (ns ms : List Nat) : famN T (famOr T ns ms) + famN T (famAnd T ns ms) = famN T ns + famN T ms := by
  rw [show famN T (famAnd T ns ms) = inAll T (fun s => famB ns s && famB ms s) from inAll_congr fun s hs => famAnd_in hT ns ms hs,
    show famN T (famOr T ns ms) = inAll T (fun s => famB ns s || famB ms s) from inAll_congr fun s hs => famOr_in hT ns ms hs]
  exact inAll_sum _ _
theorem apB_swap (T : Nat) (A B : Nat → Bool) (s : Nat) : apB T B A s = apB T A B s := by
  rw [Bool.eq_iff_iff, apB_iff, apB_iff]
  constructor
  · rintro ⟨p, q, h1, h2, h3, h4, h5, h6, h7⟩; exact ⟨q, p, h2, h1, by rw [Nat.and_comm]; exact h3, h5, h4, h7, h6⟩
  · rintro ⟨p, q, h1, h2, h3, h4, h5, h6, h7⟩; exact ⟨q, p, h2, h1, by rw [Nat.and_comm]; exact h3, h5, h4, h7, h6⟩
theorem famAp_swap (T : Nat) (ns ms : List Nat) : famAp T ms ns = famAp T ns ms := leastL_congr fun s _ => apB_swap T _ _ s
theorem famAp_less {T : Nat} (hT : T ≤ 9) (ns ms : List Nat) : famN T (famAp T ns ms) * 2 ^ T ≤ famN T ns * famN T ms := by
  rw [show famN T (famAp T ns ms) = inAll T (apB T (famB ns) (famB ms)) from inAll_congr fun s hs => famAp_in hT ns ms hs]
  exact own_things T _ _ (famB_up T ns) (famB_up T ms)
/-- What is had by things of their own is in both. -/
theorem famAp_both {T : Nat} (hT : T ≤ 9) {ns ms : List Nat} {p : Nat} (hp : p ∈ famAp T ns ms) : p < 2 ^ T ∧ famB (famAnd T ns ms) p = true := by
  obtain ⟨h1, h2⟩ := mem_leastL.1 hp
  refine ⟨h1, ?_⟩
  rw [famAnd_in hT ns ms h1, Bool.and_eq_true]
  obtain ⟨a, b, a1, b1, -, a2, b2, a3, b3⟩ := apB_iff.1 (least_iff.1 h2).1
  exact ⟨famB_up T ns a p a1 h1 a2 a3, famB_up T ms b p b1 h1 b2 b3⟩
/-- Each least state is one of the list. -/
theorem famOf_mem {T : Nat} (hT : T ≤ 9) {ls : List Nat} {p : Nat} (hp : p ∈ famOf T ls) : p ∈ ls := by
  obtain ⟨h1, h2⟩ := mem_leastL.1 hp
  obtain ⟨hin, hno⟩ := least_iff.1 h2
  obtain ⟨q, hq, hqp⟩ := famB_iff.1 hin
  by_cases e : q = p
  · subst e; exact hq
  · have : ∃ i, p.testBit i = true ∧ q.testBit i = false := Classical.byContradiction fun hn => e (sub_anti hqp (sub_iff.2 fun i hi => by
      cases hc : q.testBit i with
      | true => rfl
      | false => exact absurd ⟨i, hi, hc⟩ hn))
    obtain ⟨i, hi, hqi⟩ := this
    have h3 := hno i (high_bit h1 hi) hi
    have h4 : famB ls (p - 2 ^ i) = true := famB_iff.2 ⟨q, hq, sub_iff.2 fun j hj => by
      rw [(less_bits hT h1 hi).2 j, sub_iff.1 hqp j hj]
      have : j ≠ i := fun e => by rw [e, hqi] at hj; cases hj
      simp [this]⟩
    rw [h3] at h4; cases h4
theorem famOf_again {T : Nat} (hT : T ≤ 9) (ls : List Nat) : famOf T (famOf T ls) = famOf T ls := leastL_fam hT (famB_up T ls)
theorem famOf_has {T : Nat} (hT : T ≤ 9) {ls : List Nat} {x : Nat} (hx : x ∈ ls) (hl : x < 2 ^ T) : famB (famOf T ls) x = true := by
  rw [famOf_in hT ls hl]; exact famB_iff.2 ⟨x, hx, Nat.and_self x⟩
/-- Each least state is in it; without any of its things it is not. -/
theorem least_has {ns : List Nat} {p : Nat} (hp : p ∈ ns) : famB ns p = true := famB_iff.2 ⟨p, hp, Nat.and_self p⟩
theorem least_not {T : Nat} (hT : T ≤ 9) {ns : List Nat} (h : OkN T ns) {p k : Nat} (hp : p ∈ ns) (hk : p.testBit k = true) : famB ns (p - 2 ^ k) = false := by
  have e := fam_canon hT h
  have hp' : p ∈ leastL T (famB ns) := by rw [e]; exact hp
  obtain ⟨h1, h2⟩ := mem_leastL.1 hp'
  exact (least_iff.1 h2).2 k (high_bit h1 hk) hk
theorem more_has {T : Nat} {ns : List Nat} {s k : Nat} (hs : s < 2 ^ T) (hk : k < T) (h : famB ns s = true) : famB ns (s ||| 2 ^ k) = true :=
  famB_up T ns s (s ||| 2 ^ k) hs (Nat.or_lt_two_pow hs (Nat.pow_lt_pow_right (by omega) hk)) (sub_iff.2 fun i hi => by rw [Nat.testBit_or, hi]; rfl) h
end Go.Proofs.Ytlcgbmeneajfoaa
