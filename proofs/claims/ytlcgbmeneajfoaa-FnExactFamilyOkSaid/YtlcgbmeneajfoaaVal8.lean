/- Values of chapter 8's functions, and what its laws say of them. -/
import Derived.Test.YtlcgbmeneajfoaaFamW
import Derived.Test.YtlcgbmeneajfoaaSpec8c
namespace Go.Proofs.Ytlcgbmeneajfoaa
open Go.RowKit
set_option maxRecDepth 100000

def natOf (xs : List Int) : List Nat := xs.map Int.toNat
theorem natOf_natI (ns : List Nat) : natOf (natI ns) = ns := natI_back ns
theorem famOk_of {T : Nat} {ns : List Nat} (hT : T ≤ 6) (h : OkN T ns) : famOkB (T : Nat) (natI ns) = true := famOkB_iff.2 ⟨T, ns, rfl, hT, rfl, h⟩
theorem inI_of {T : Nat} {ns : List Nat} {s : Nat} (hT : T ≤ 6) (h : OkN T ns) (hs : s < 2 ^ T) : famInI (T : Nat) (natI ns) (s : Nat) = famB ns s := by
  unfold famInI
  rw [famOk_of hT h, natI_back, show ((T : Nat) : Int).toNat = T from rfl, show ((s : Nat) : Int).toNat = s from rfl]
  have : (decide ((0 : Int) ≤ (s : Nat)) && decide (((s : Nat) : Int) ≤ (2 ^ T : Nat) - 1)) = true := by simp only [Bool.and_eq_true, decide_eq_true_eq]; omega
  rw [this]; rfl
theorem countI_of {T : Nat} {ns : List Nat} (hT : T ≤ 6) (h : OkN T ns) : famCountI (T : Nat) (natI ns) = (famN T ns : Nat) := by
  unfold famCountI
  rw [if_pos (famOk_of hT h), natI_back]; rfl
theorem up_upS {T : Nat} (ns : List Nat) : UpS T (famB ns) := famB_up T ns

/-- One family, and what is told of it. -/
def blT (t : Int) (xs : List Int) : Int := if famOkB t xs = true then t else 0
def blL (t : Int) (xs : List Int) : List Int := if famOkB t xs = true then natI (famBl t.toNat (natOf xs)) else []
/-- A list of states, and the family that is made of it. -/
def fromOk (t : Int) (xs : List Int) : Bool := (decide (0 ≤ t) && decide (t ≤ 6)) && (decide (xs.length ≤ 64) && xs.all fun x => decide (0 ≤ x) && decide (x ≤ (2 ^ t.toNat : Nat) - 1))
def fromT (t : Int) (xs : List Int) : Int := if fromOk t xs = true then t else 0
def fromL (t : Int) (xs : List Int) : List Int := if fromOk t xs = true then natI (famOf t.toNat (natOf xs)) else []
/-- Two families of as many things. -/
def twoOk (t : Int) (xs : List Int) (s : Int) (ys : List Int) : Bool := famOkB t xs && (famOkB s ys && decide (t = s))
def twoT (t : Int) (xs : List Int) (s : Int) (ys : List Int) : Int := if twoOk t xs s ys = true then t else 0
def andL (t : Int) (xs : List Int) (s : Int) (ys : List Int) : List Int := if twoOk t xs s ys = true then natI (famAnd t.toNat (natOf xs) (natOf ys)) else []
def orL (t : Int) (xs : List Int) (s : Int) (ys : List Int) : List Int := if twoOk t xs s ys = true then natI (famOr t.toNat (natOf xs) (natOf ys)) else []
def apL (t : Int) (xs : List Int) (s : Int) (ys : List Int) : List Int := if twoOk t xs s ys = true then natI (famAp t.toNat (natOf xs) (natOf ys)) else []
/-- The family of paths. -/
def pfOk (n : Int) (es : List (Int × Int)) (a b : Int) : Bool := joinOkB n es a b && decide (es.length ≤ 6)
def pfT (n : Int) (es : List (Int × Int)) (a b : Int) : Int := if pfOk n es a b = true then es.length else 0
def pfL (n : Int) (es : List (Int × Int)) (a b : Int) : List Int := if pfOk n es a b = true then natI (pathsN n es a b) else []

theorem fromOk_iff {t : Int} {xs : List Int} : fromOk t xs = true ↔ ∃ (T : Nat) (ls : List Nat), t = T ∧ T ≤ 6 ∧ xs = natI ls ∧ ls.length ≤ 64 ∧ ∀ x ∈ ls, x < 2 ^ T := by
  unfold fromOk
  simp only [Bool.and_eq_true, decide_eq_true_eq, List.all_eq_true]
  constructor
  · rintro ⟨⟨h1, h2⟩, h3, h4⟩
    refine ⟨t.toNat, natOf xs, by omega, by omega, ?_, by rw [natOf, List.length_map]; exact h3, fun x hx => ?_⟩
    · unfold natOf natI
      rw [List.map_map]
      conv => lhs; rw [← List.map_id xs]
      refine List.map_congr_left fun x hx => ?_
      have := h4 x hx
      show x = ((x.toNat : Nat) : Int)
      omega
    · obtain ⟨y, hy, rfl⟩ := List.mem_map.1 hx
      have := h4 y hy
      omega
  · rintro ⟨T, ls, rfl, h1, rfl, h2, h3⟩
    refine ⟨⟨by omega, by omega⟩, by rw [natI_length]; exact h2, fun x hx => ?_⟩
    obtain ⟨y, hy, rfl⟩ := List.mem_map.1 hx
    have := h3 y hy
    rw [show ((T : Nat) : Int).toNat = T from rfl]
    omega
theorem twoOk_iff {t s : Int} {xs ys : List Int} : twoOk t xs s ys = true ↔ ∃ (T : Nat) (ns ms : List Nat), t = T ∧ s = T ∧ T ≤ 6 ∧ xs = natI ns ∧ ys = natI ms ∧ OkN T ns ∧ OkN T ms := by
  unfold twoOk
  rw [Bool.and_eq_true, Bool.and_eq_true, decide_eq_true_eq]
  constructor
  · rintro ⟨h1, h2, rfl⟩
    obtain ⟨T, ns, rfl, hT, rfl, hn⟩ := famOkB_iff.1 h1
    obtain ⟨T', ms, e, -, rfl, hm⟩ := famOkB_iff.1 h2
    obtain rfl : T = T' := by omega
    exact ⟨T, ns, ms, rfl, rfl, hT, rfl, rfl, hn, hm⟩
  · rintro ⟨T, ns, ms, rfl, rfl, hT, rfl, rfl, hn, hm⟩
    exact ⟨famOk_of hT hn, famOk_of hT hm, rfl⟩
theorem blL_of {T : Nat} {ns : List Nat} (hT : T ≤ 6) (h : OkN T ns) : blL (T : Nat) (natI ns) = natI (famBl T ns) := by
  unfold blL; rw [if_pos (famOk_of hT h), natOf_natI]; rfl
theorem two_of {T : Nat} {ns ms : List Nat} (hT : T ≤ 6) (hn : OkN T ns) (hm : OkN T ms) : twoOk (T : Nat) (natI ns) (T : Nat) (natI ms) = true := twoOk_iff.2 ⟨T, ns, ms, rfl, rfl, hT, rfl, rfl, hn, hm⟩
theorem andL_of {T : Nat} {ns ms : List Nat} (hT : T ≤ 6) (hn : OkN T ns) (hm : OkN T ms) : andL (T : Nat) (natI ns) (T : Nat) (natI ms) = natI (famAnd T ns ms) := by
  unfold andL; rw [if_pos (two_of hT hn hm), natOf_natI, natOf_natI]; rfl
theorem orL_of {T : Nat} {ns ms : List Nat} (hT : T ≤ 6) (hn : OkN T ns) (hm : OkN T ms) : orL (T : Nat) (natI ns) (T : Nat) (natI ms) = natI (famOr T ns ms) := by
  unfold orL; rw [if_pos (two_of hT hn hm), natOf_natI, natOf_natI]; rfl
theorem apL_of {T : Nat} {ns ms : List Nat} (hT : T ≤ 6) (hn : OkN T ns) (hm : OkN T ms) : apL (T : Nat) (natI ns) (T : Nat) (natI ms) = natI (famAp T ns ms) := by
  unfold apL; rw [if_pos (two_of hT hn hm), natOf_natI, natOf_natI]; rfl
/-- A call gives back a family of new memory, and whether there is one. -/
def GotFam (w : World) (t : Int) (xs : List Int) (ok : Bool) (e : Ending) (w' : World) : Prop :=
  ∃ A c, e = .returned (.tuple #[.agg #[.int .i64 t, .slice A xs.length c], .bool ok]) ∧ OwnI w' w.heap.size (.slice A xs.length c) xs ∧ Below w.heap.size w w'
end Go.Proofs.Ytlcgbmeneajfoaa
