/- markNet and heldNet: a row of edges is written over with a count, and found so again. -/
import Derived.Test.YtmfnlfcpnajngaaEd
import Derived.Test.YtmfnlfcpnajngaaRows
namespace Go.Proofs.Ytmfnlfcpnajngaa
open Go.RowKit
set_option maxRecDepth 100000

/-- What marking leaves: the numbers from k on. -/
def marks (k : Int) (m : Nat) : List (Int × Int) := (List.range m).map fun (i : Nat) => (k + 2 * (i : Int), k + 2 * (i : Int) + 1)
theorem marks_length (k : Int) (m : Nat) : (marks k m).length = m := by simp [marks]
theorem marks_get (k : Int) (m i : Nat) (h : i < m) : (marks k m)[i]? = some (k + 2 * (i : Int), k + 2 * (i : Int) + 1) := by simp [marks, h]

def MarkedE (w : World) (base : Nat) (v : Value) (k : Int) (m : Nat) (e : Ending) (w' : World) : Prop :=
  e = .returned (.int .i64 (k + 2 * (m : Int))) ∧ OwnE w' base v (marks k m) ∧ w.grownBy w' v.ownBlock

theorem markEdgeS_any (A : Option Addr) (c base : Nat) (es : List (Int × Int)) (k : Int) (w : World) (own : OwnE w base (.slice A es.length c) es) (hl : es.length ≤ 1048576) (k0 : 0 ≤ k) (k1 : k ≤ 10) :
    Calls Try.prog 67 #[.slice A es.length c, .int .i64 k] w (MarkedE w base (.slice A es.length c) k es.length) := by
  generalize hm : es.length = m at *
  have HM := Lib.hid hm
  clear hm
  go_enter Try.func67, Try.ntmps67
  go_wp2_with fail
  go_loopw [1, 5] (fun kk i wr => ∃ (j : Nat) (cur : List (Int × Int)), j ≤ m ∧ i = .int .i64 j ∧ kk = .int .i64 (k + 2 * (j : Int)) ∧ Hid (cur.take j = (marks k m).take j) ∧ OwnE wr base (.slice A m c) cur ∧ w.grownBy wr (Value.slice A m c).ownBlock) (fun _ i _ => m - (intOf i).toNat)
  case atStart => exact ⟨0, es, by omega, rfl, by simp, by simp [Hid], own, World.grownBy.refl _ _⟩
  case round =>
    clear own
    obtain ⟨j, cur, hj, rfl, rfl, hall, own, hg⟩ := hrel
    by_cases hlt : j < m
    · rcases own.form with ⟨hv, _⟩ | ⟨g, cc, hv, _, _⟩
      · injection hv with _ h2 _; omega
      · injection hv with hA h2 h3
        subst hA h3
        have H2 := Lib.hid h2
        clear h2
        obtain ⟨x, y, hxy, c1, c2, f1, f2⟩ := own.slot hlt
        have hset : Hid ((cur.set j (k + 2 * (j : Int), k + 2 * (j : Int) + 1)).take (j + 1) = (marks k m).take (j + 1)) := by
          have h1 : j < cur.length := by have := H2.out; omega
          have h2 : j < (marks k m).length := by rw [marks_length]; exact hlt
          have h3 : (marks k m)[j] = (k + 2 * (j : Int), k + 2 * (j : Int) + 1) := by
            have := marks_get k m j hlt; rw [List.getElem?_eq_getElem h2] at this; injection this
          have := take_set_succ h1 h2 hall.out
          rw [h3] at this
          exact this
        have OW := Lib.hid (own.store j (k + 2 * (j : Int)) (k + 2 * (j : Int) + 1))
        clear own
        go_wp2_with fail
        go_roundw
        case rel => exact ⟨j + 1, _, by omega, by go_num, by go_num, hset, OW.out, ⟨hg.os, hg.tape, hg.output, by simp [World.setCell]; exact hg.size, fun i hi hne => by
          have hne' : i ≠ g := fun e => hne (by simp [Value.ownBlock, e])
          exact (Below.heap_setCell _ _ _ _ (by simpa using hne')).trans ((Below.heap_setCell _ _ _ _ (by simpa using hne')).trans (hg.block i hi hne))⟩⟩
        case measure => simp [intOf]; omega
    · obtain rfl : j = m := by omega
      have hcur : cur = marks k j := by
        have h1 := own.len
        have := hall.out
        rw [List.take_of_length_le (by omega), List.take_of_length_le (by rw [marks_length]; omega)] at this
        exact this
      subst hcur
      go_wp2_with fail
      go_returns
      exact ⟨rfl, own, hg⟩

theorem markNet_any (n : Int) (A : Option Addr) (c base : Nat) (es : List (Int × Int)) (k : Int) (w : World) (own : OwnE w base (.slice A es.length c) es) (hl : es.length ≤ 1048576) (k0 : 0 ≤ k) (k1 : k ≤ 10) (_hb : base ≤ w.heap.size) :
    Calls Try.prog 39 #[.agg #[.int .i64 n, .slice A es.length c], .int .i64 k] w (MarkedE w base (.slice A es.length c) k es.length) := by
  have hbox := (Below.refl w.heap.size w).alloc (Nat.le_refl _) (.cells #[.int .i64 n, .slice A es.length c] 25)
  have own' := own.below hbox own.lt
  go_enter Try.func39, Try.ntmps39
  go_wp2_with fail
  refine (markEdgeS_any _ _ _ _ _ _ own' hl k0 k1).mono ?_
  rintro e1 w1 ⟨rfl, own1, hg1⟩
  go_wp2_with fail
  go_returns
  exact ⟨rfl, own1, ⟨hg1.os, hg1.tape, hg1.output, Nat.le_trans hbox.size hg1.size, fun i hi hne => (hg1.block i (by simp; omega) hne).trans (hbox.block i hi)⟩⟩

end Go.Proofs.Ytmfnlfcpnajngaa
