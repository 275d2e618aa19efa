/- EdgesAt of the reference. -/
import Derived.Test.YtmdplmjphadhkaaEdgesAt
namespace Go.Proofs.Ytmdplmjphadhkaa
open Go.RowKit

theorem specEdgesAt_any (n v : Int) (A : Option Addr) (cap : Nat) (es : List (Int × Int)) (w : World) (hes : EdgesIn w w.heap.size A es) (hl : es.length ≤ 1048576) :
    Calls Try.prog 27 #[.agg #[.int .i64 n, .slice A es.length cap], .int .i64 v] w fun e w' => e = .returned (.int .i64 (degI n es v)) ∧ Below w.heap.size w w' := by
  have hes' := boxE hes #[.int .i64 n, .slice A es.length cap] 25
  by_cases hn : netOkB n es = true
  · have HN := Lib.hid hn
    clear hn
    by_cases hv : 1 ≤ v ∧ v ≤ n
    · have HV : Hid (nodeOkB n es v = true) := by simp [Hid, nodeOkB, HN.out, hv.1, hv.2]
      have hd : Hid ((decide (1 ≤ v) && decide (v ≤ n)) = true) := by simp [Hid, hv.1, hv.2]
      clear hv
      go_enter Try.func27, Try.ntmps27
      go_wp2_with fail
      refine (specNetOk_any _ _ _ _ _ hes' hl).mono ?_
      rintro e1 w1 ⟨rfl, hb1⟩
      rw [HN.out]
      have hc := oldCell hb1; have hf := oldMark hb1
      have L := (ArgNet.start (cap := cap) (n := n) 25 hes).step hb1 (by simp)
      clear hes hes'
      go_wp2_with fail
      refine (l1In_any _ _ _ _).mono ?_
      rintro e2 w2 ⟨rfl, rfl⟩
      rw [hd.out]
      go_wp2_with fail
      clear hc hf
      go_loopw [5, 6] (fun c i wr => ∃ k : Nat, k ≤ es.length ∧ i = .int .i64 k ∧ c = .int .i64 ((es.take k).countP (endB v) : Nat) ∧ ArgNet w wr n A cap es) (fun _ i _ => es.length - (intOf i).toNat)
      case atStart => exact ⟨0, by omega, rfl, by simp, L⟩
      case round =>
        obtain ⟨k, hk, rfl, rfl, L⟩ := hrel
        obtain ⟨_, _, c0, c1, s1⟩ := id L
        by_cases hlt : k < es.length
        · obtain ⟨b, off, rfl, hbb, g1, g2⟩ := L.at_ k _ (List.getElem?_eq_getElem hlt)
          have hst := Lib.hid (countP_take_succ hlt (endB v))
          have hle := countP_take_le (l := es) (k := k) (endB v)
          generalize es[k] = e at *
          by_cases h1 : e.1 = v
          · have hf : Hid (endB v e = true) := by simp [Hid, endB, h1]
            have d1 : (e.1 == v) = true := by simp [h1]
            clear h1
            go_wp2_with fail
            go_roundw
            case rel => exact ⟨k + 1, by omega, by go_num, by rw [hst.out, if_pos hf.out]; go_num, L⟩
            case measure => simp [intOf]; omega
          · have d1 : (e.1 == v) = false := by simp [h1]
            by_cases h2 : e.2 = v
            · have hf : Hid (endB v e = true) := by simp [Hid, endB, h2]
              have d2 : (e.2 == v) = true := by simp [h2]
              clear h1 h2
              go_wp2_with fail
              go_roundw
              case rel => exact ⟨k + 1, by omega, by go_num, by rw [hst.out, if_pos hf.out]; go_num, L⟩
              case measure => simp [intOf]; omega
            · have hf : Hid (endB v e = false) := by simp [Hid, endB, h1, h2]
              have d2 : (e.2 == v) = false := by simp [h2]
              clear h1 h2
              go_wp2_with fail
              go_roundw
              case rel => exact ⟨k + 1, by omega, by go_num, by rw [hst.out, hf.out]; rfl, L⟩
              case measure => simp [intOf]; omega
        · obtain rfl : k = es.length := by omega
          rw [List.take_length]
          go_wp2
          go_returns
          exact ⟨retI (by simp [degI, HV.out]), L.below⟩
    · have HV : Hid (nodeOkB n es v = false) := by simp [Hid, nodeOkB, HN.out]; omega
      have hd : Hid ((decide (1 ≤ v) && decide (v ≤ n)) = false) := by simp [Hid]; omega
      clear hv
      go_enter Try.func27, Try.ntmps27
      go_wp2_with fail
      refine (specNetOk_any _ _ _ _ _ hes' hl).mono ?_
      rintro e1 w1 ⟨rfl, hb1⟩
      rw [HN.out]
      have hc := oldCell hb1; have hf := oldMark hb1
      go_wp2_with fail
      refine (l1In_any _ _ _ _).mono ?_
      rintro e2 w2 ⟨rfl, rfl⟩
      rw [hd.out]
      go_wp2_with fail
      go_returns
      exact ⟨retI (by simp [degI, HV.out]), boxEB hb1⟩
  · have HN : Hid (netOkB n es = false) := by simpa [Hid] using hn
    clear hn
    go_enter Try.func27, Try.ntmps27
    go_wp2_with fail
    refine (specNetOk_any _ _ _ _ _ hes' hl).mono ?_
    rintro e1 w1 ⟨rfl, hb1⟩
    rw [HN.out]
    go_wp2_with fail
    go_returns
    exact ⟨retI (by simp [degI, nodeOkB, HN.out]), boxEB hb1⟩
end Go.Proofs.Ytmdplmjphadhkaa
