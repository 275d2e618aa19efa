/- Equality of edges, of lists of edges and of nets, as the laws ask it. -/
import Derived.Test.YtdacfeebidhgnaaNetOk
import Derived.StillTailTactics
import Derived.Deep.RegionHeld3
import Derived.Deep.QuietTactic
import Derived.BigQuiet
import Derived.Test.YtdacfeebidhgnaaEd
import Derived.Test.YtdacfeebidhgnaaRows
import Derived.ProofKit
import Derived.OpenShut
import Derived.ShutString
import Derived.ChangeOld
import Derived.Carry
import Derived.Deep.Slices
import Derived.ChangeSame
import Derived.Lib.SmallJoins
import Derived.OwnWalk
namespace Go.Proofs.Ytdacfeebidhgnaa
open Go.RowKit
set_option maxRecDepth 100000

theorem eqEdge_any (a b c d : Int) (w : World) :
    Calls Try.prog 121 #[.agg #[.int .i64 a, .int .i64 b], .agg #[.int .i64 c, .int .i64 d]] w fun e w' => e = .returned (.bool (eqEB (a, b) (c, d))) ∧ Below w.heap.size w w' := by
  by_cases h1 : a = c <;> by_cases h2 : b = d <;>
  · go_enter Try.func121, Try.ntmps121
    go_wp2
    all_goals (go_returns; exact ⟨by simp [h1, h2, eqEB], by go_grown⟩)

theorem take_succ_eq {α : Type} [DecidableEq α] {l m : List α} {k : Nat} (h : k < l.length) (h' : k < m.length) (e : l.take k = m.take k) : (l.take (k + 1) = m.take (k + 1)) ↔ l[k] = m[k] := by
  rw [List.take_succ_eq_append_getElem h, List.take_succ_eq_append_getElem h', e, List.append_cancel_left_eq]; simp

theorem eqEdgeS_any (A B : Option Addr) (c d : Nat) (es fs : List (Int × Int)) (w : World) (hes : EdgesIn w w.heap.size A es) (hfs : EdgesIn w w.heap.size B fs) (hl : es.length ≤ 1048576) (hl2 : fs.length ≤ 1048576) :
    Calls Try.prog 65 #[.slice A es.length c, .slice B fs.length d] w fun e w' => e = .returned (.bool (eqEsB es fs)) ∧ Below w.heap.size w w' := by
  by_cases hne : es.length = fs.length
  · have he : ∃ n, es.length = n ∧ fs.length = n := ⟨_, rfl, hne.symm⟩
    obtain ⟨n, h1, h2⟩ := he
    rw [h1, h2]
    have H1 := Lib.hid h1
    have H2 := Lib.hid h2
    have hl' : n ≤ 1048576 := by omega
    clear hne hl hl2 h1 h2
    go_enter Try.func65, Try.ntmps65
    go_wp2
    go_loopw [5] (fun i wr => ∃ k : Nat, k ≤ n ∧ i = .int .i64 k ∧ Hid (es.take k = fs.take k) ∧ Below w.heap.size w wr) (fun i _ => n - (intOf i).toNat)
    case atStart => exact ⟨0, by omega, rfl, by simp [Hid], by go_grown⟩
    case round =>
      obtain ⟨k, hk, rfl, hall, hb⟩ := hrel
      by_cases hlt : k < n
      · have k1 : k < es.length := by have := H1.out; omega
        have k2 : k < fs.length := by have := H2.out; omega
        obtain ⟨b, off, rfl, hbb, g1, g2⟩ := (hes.below hb (by omega)) k _ (List.getElem?_eq_getElem k1)
        obtain ⟨b', off', rfl, hbb', g1', g2'⟩ := (hfs.below hb (by omega)) k _ (List.getElem?_eq_getElem k2)
        have hst := Lib.hid (take_succ_eq k1 k2 hall.out)
        have hno : Hid (es[k] ≠ fs[k] → ¬ es = fs) := by rintro h rfl; exact h rfl
        clear hes hfs
        generalize es[k] = e at *
        generalize fs[k] = f at *
        go_wp2
        go_still_tail 8, (by kernel_rfl)
        change wpList _ _ _ _ _ wr.drew
        go_wp2_with (go_at_call 121; refine (eqEdge_any _ _ _ _ _).mono ?_; rintro e1 w1 ⟨rfl, hb1⟩)
        · have hf : ¬ e = f := eqEB_f (not_t ‹(!eqEB (e.fst, e.snd) (f.fst, f.snd)) = true›)
          go_returns
          exact ⟨by simp [eqEsB, hno.out hf], (hb.drew).trans (hb1.mono (by simp; exact hb.size))⟩
        · have hf : e = f := eqEB_t (not_f ‹(!eqEB (e.fst, e.snd) (f.fst, f.snd)) = false›)
          go_roundw
          case rel => exact ⟨k + 1, by omega, by go_num, hst.out.2 hf, (hb.drew).trans (hb1.mono (by simp; exact hb.size))⟩
          case measure => simp [intOf]; omega
      · obtain rfl : k = n := by omega
        have hall : Hid (es = fs) := by
          have := hall.out
          rw [List.take_of_length_le (by rw [H1.out]; omega), List.take_of_length_le (by rw [H2.out]; omega)] at this
          exact this
        go_wp2
        go_returns
        exact ⟨by simp [eqEsB, hall.out], hb⟩
  · have H := Lib.hid hne
    have hq : ((es.length : Int) != fs.length) = true := by simpa using (by omega : (es.length : Int) ≠ fs.length)
    have hno : Hid (¬ es = fs) := by rintro rfl; exact hne rfl
    clear hne
    go_enter Try.func65, Try.ntmps65
    go_wp2
    go_returns
    exact ⟨by simp [eqEsB, hno.out], by go_grown⟩

theorem eqNet_any (n m : Int) (A B : Option Addr) (c d : Nat) (es fs : List (Int × Int)) (w : World) (hes : EdgesIn w w.heap.size A es) (hfs : EdgesIn w w.heap.size B fs) (hl : es.length ≤ 1048576) (hl2 : fs.length ≤ 1048576) :
    Calls Try.prog 19 #[.agg #[.int .i64 n, .slice A es.length c], .agg #[.int .i64 m, .slice B fs.length d]] w fun e w' => e = .returned (.bool (netEqB n m es fs)) ∧ Below w.heap.size w w' := by
  have hes' := ((hes.alloc (Nat.le_refl _) (.cells #[.int .i64 n, .slice A es.length c] 29)).alloc (by simp) (.cells #[.int .i64 m, .slice B fs.length d] 29))
  have hfs' := ((hfs.alloc (Nat.le_refl _) (.cells #[.int .i64 n, .slice A es.length c] 29)).alloc (by simp) (.cells #[.int .i64 m, .slice B fs.length d] 29))
  have hbw : Below w.heap.size w ((w.alloc (.cells #[.int .i64 n, .slice A es.length c] 29)).alloc (.cells #[.int .i64 m, .slice B fs.length d] 29)) := by go_grown
  have H := Lib.hid hbw
  clear hbw
  by_cases hnm : n = m
  · obtain rfl := hnm
    go_enter Try.func19, Try.ntmps19
    go_wp2_with (go_at_call 65; refine (eqEdgeS_any _ _ _ _ _ _ _ (hes'.more (by simp; omega)) (hfs'.more (by simp; omega)) hl hl2).mono ?_; rintro e1 w1 ⟨rfl, hb1⟩)
    · have hf := eqEsB_f (not_t ‹(!eqEsB es fs) = true›)
      go_returns
      exact ⟨by simp [netEqB, hf], H.out.trans (hb1.mono (by simp; omega))⟩
    · have hf := eqEsB_t (not_f ‹(!eqEsB es fs) = false›)
      go_returns
      exact ⟨by simp [netEqB, hf], H.out.trans (hb1.mono (by simp; omega))⟩
  · have hq : (n != m) = true := by simpa using hnm
    have hnm := Lib.hid hnm
    go_enter Try.func19, Try.ntmps19
    go_wp2
    go_returns
    exact ⟨by simp [netEqB, hnm.out], H.out⟩
end Go.Proofs.Ytdacfeebidhgnaa

/- What the laws' arguments are opened to: a net by value; and what every proof of a row shares. -/
namespace Go.Proofs.Ytdacfeebidhgnaa
open Go.ChangeShapes Go.WideShapes Go.ChangeAt Go.RowKit Go.Deep Go.Joins
set_option linter.unusedVariables false

set_option maxRecDepth 100000

theorem own : ownKnob Try.prog.godebug = none := by kernel_rfl
theorem laidOut : laidOutB Try.prog = true := by kernel_rfl

theorem list_of {α : Type} {P : Nat → α → Prop} : ∀ n : Nat, (∀ i, i < n → ∃ e, P i e) → ∃ es : List α, es.length = n ∧ ∀ k e, es[k]? = some e → P k e
  | 0, _ => ⟨[], rfl, fun k e h => by simp at h⟩
  | n + 1, h => by
    obtain ⟨es, hl, hes⟩ := list_of n fun i hi => h i (by omega)
    obtain ⟨e, he⟩ := h n (by omega)
    refine ⟨es ++ [e], by simp [hl], fun k e' hk => ?_⟩
    rw [List.getElem?_append] at hk
    split at hk
    · exact hes k e' hk
    · next hge =>
      have : k = n := by
        have hk' := (List.getElem?_eq_some_iff.1 hk).1
        simp at hk'
        omega
      subst this
      simp [hl] at hk
      subst hk
      exact he

theorem open_net {H : Type} {enc : TypeId × Value → H} {w : World} {base : Nat} {r : Reach} {b0 : Nat} {v : Value} {d : DataW H} {p : List MemPlace}
    (hv : Value.okWide Try.prog w r b0 24 v) (h : DataW.Trod enc Try.prog w base (fun _ => true) true 24 v d p) :
    ∃ (n : Int) (A : Option Addr) (cap : Nat) (es : List (Int × Int)), v = .agg #[.int .i64 n, .slice A es.length cap] ∧ EdgesIn w w.heap.size A es ∧ es.length ≤ maxLen ∧ (Lit.int .i64 n).wf = true := by
  obtain ⟨v0, v1, y0, y1, m, rfl, _, _, h0, h1⟩ := open_agg2 Try.underlying24 (by kernel_rfl) (by kernel_rfl) hv h
  obtain ⟨n, e0, _, wf⟩ := DataW.trod_int Try.underlying3 h0
  injection e0 with e0
  subst e0
  rcases open_slice Try.underlying22 h1 with ⟨hcs, _⟩ | ⟨a, len, cap, m', k', D, Pl, hcs, _, hl, hm, hm', _, hi⟩
  · injection hcs with hcs
    subst hcs
    exact ⟨n, none, 0, [], rfl, EdgesIn.nil, by simp [maxLen], wf⟩
  · injection hcs with hcs
    subst hcs
    obtain ⟨b, off, spot⟩ := a
    have two : Try.prog.cellsOf 98 = 2 := by kernel_rfl
    have one : Try.prog.cellsOf 3 = 1 := by kernel_rfl
    have each : ∀ i, i < len → ∃ x0 x1 : Int, w.cell? ((⟨b, off, spot⟩ : Addr).add (i * 2)) = some (.int .i64 x0) ∧ w.cell? (((⟨b, off, spot⟩ : Addr).add (i * 2)).add 1) = some (.int .i64 x1) := by
      intro i hil
      obtain ⟨cs, hc, ht⟩ := hi i (by simp at hm'; omega)
      rw [two] at hc
      obtain ⟨_, hlen, hat⟩ := World.cells?_some hc
      obtain ⟨z0, z1, _, _, _, g0, g1⟩ := trod_struct2 Try.underlying98 ht
      match cs, hlen with
      | [u0, u1], _ =>
        obtain ⟨x0, e0, _, _⟩ := DataW.trod_int Try.underlying3 g0
        obtain ⟨x1, e1, _, _⟩ := DataW.trod_int Try.underlying3 g1
        have e0' : u0 = .int .i64 x0 := by simpa [one] using e0
        have e1' : u1 = .int .i64 x1 := by simpa [one] using e1
        refine ⟨x0, x1, ?_, ?_⟩
        · have := hat 0 (by omega); rw [← e0']; simpa [Addr.add] using this
        · have := hat 1 (by omega); rw [← e1']; simpa using this
    obtain ⟨es, hel, hes⟩ := list_of (P := fun i (e : Int × Int) => ∃ b' off', (some (⟨b, off, spot⟩ : Addr)) = some ⟨b', off', none⟩ ∧ b' < w.heap.size ∧
        w.cell? ⟨b', off' + i * 2, none⟩ = some (.int .i64 e.1) ∧ w.cell? ⟨b', off' + i * 2 + 1, none⟩ = some (.int .i64 e.2)) len (fun i hil => by
      have hs : spot = none := by
        obtain ⟨_, _, q, _⟩ := each 0 (by omega)
        have := World.cell?_spot q
        simpa [Addr.add] using this
      subst hs
      obtain ⟨x0, x1, q0, q1⟩ := each i hil
      rw [add_plain, add_plain] at q1
      rw [add_plain] at q0
      exact ⟨(x0, x1), b, off, rfl, World.block_lt_of_cell? w _ q0, q0, q1⟩)
    exact ⟨n, some ⟨b, off, spot⟩, cap, es, by rw [hel], hes, by omega, wf⟩
end Go.Proofs.Ytdacfeebidhgnaa

/- markNet and heldNet: a row of edges is written over with a count, and found so again. -/
namespace Go.Proofs.Ytdacfeebidhgnaa
open Go.RowKit
set_option maxRecDepth 100000

/-- What marking leaves: the numbers from k on. -/
def marks (k : Int) (m : Nat) : List (Int × Int) := (List.range m).map fun (i : Nat) => (k + 2 * (i : Int), k + 2 * (i : Int) + 1)
theorem marks_length (k : Int) (m : Nat) : (marks k m).length = m := by simp [marks]
theorem marks_get (k : Int) (m i : Nat) (h : i < m) : (marks k m)[i]? = some (k + 2 * (i : Int), k + 2 * (i : Int) + 1) := by simp [marks, h]

def MarkedE (w : World) (base : Nat) (v : Value) (k : Int) (m : Nat) (e : Ending) (w' : World) : Prop :=
  e = .returned (.int .i64 (k + 2 * (m : Int))) ∧ OwnE w' base v (marks k m) ∧ w.grownBy w' v.ownBlock

theorem markEdgeS_any (A : Option Addr) (c base : Nat) (es : List (Int × Int)) (k : Int) (w : World) (own : OwnE w base (.slice A es.length c) es) (hl : es.length ≤ 1048576) (k0 : 0 ≤ k) (k1 : k ≤ 10) :
    Calls Try.prog 72 #[.slice A es.length c, .int .i64 k] w (MarkedE w base (.slice A es.length c) k es.length) := by
  generalize hm : es.length = m at *
  have HM := Lib.hid hm
  clear hm
  go_enter Try.func72, Try.ntmps72
  go_wp2_with fail
  go_loopw [1, 5] (fun kk i wr => ∃ (j : Nat) (cur : List (Int × Int)), j ≤ m ∧ i = .int .i64 j ∧ kk = .int .i64 (k + 2 * (j : Int)) ∧ Hid (cur.take j = (marks k m).take j) ∧ OwnE wr base (.slice A m c) cur ∧ w.grownBy wr (Value.slice A m c).ownBlock) (fun _ i _ => m - (intOf i).toNat)
  case atStart => exact ⟨0, es, by omega, rfl, by simp, by simp [Hid], own, World.grownBy.refl _ _⟩
  case round =>
    clear own
    obtain ⟨j, cur, hj, rfl, rfl, hall, own, hg⟩ := hrel
    by_cases hlt : j < m
    · rcases own.form with ⟨hv, _⟩ | ⟨g, cc, hv, _, _⟩
      · injection hv with _ h2 _; omega
      · injection hv with hA h2 h3
        subst hA h3
        have H2 := Lib.hid h2
        clear h2
        obtain ⟨x, y, hxy, c1, c2, f1, f2⟩ := own.slot hlt
        have hset : Hid ((cur.set j (k + 2 * (j : Int), k + 2 * (j : Int) + 1)).take (j + 1) = (marks k m).take (j + 1)) := by
          have h1 : j < cur.length := by have := H2.out; omega
          have h2 : j < (marks k m).length := by rw [marks_length]; exact hlt
          have h3 : (marks k m)[j] = (k + 2 * (j : Int), k + 2 * (j : Int) + 1) := by
            have := marks_get k m j hlt; rw [List.getElem?_eq_getElem h2] at this; injection this
          have := take_set_succ h1 h2 hall.out
          rw [h3] at this
          exact this
        have OW := Lib.hid (own.store j (k + 2 * (j : Int)) (k + 2 * (j : Int) + 1))
        clear own
        go_wp2_with fail
        go_roundw
        case rel => exact ⟨j + 1, _, by omega, by go_num, by go_num, hset, OW.out, ⟨hg.os, hg.tape, hg.output, by simp [World.setCell]; exact hg.size, fun i hi hne => by
          have hne' : i ≠ g := fun e => hne (by simp [Value.ownBlock, e])
          exact (Below.heap_setCell _ _ _ _ (by simpa using hne')).trans ((Below.heap_setCell _ _ _ _ (by simpa using hne')).trans (hg.block i hi hne))⟩⟩
        case measure => simp [intOf]; omega
    · obtain rfl : j = m := by omega
      have hcur : cur = marks k j := by
        have h1 := own.len
        have := hall.out
        rw [List.take_of_length_le (by omega), List.take_of_length_le (by rw [marks_length]; omega)] at this
        exact this
      subst hcur
      go_wp2_with fail
      go_returns
      exact ⟨rfl, own, hg⟩

theorem markNet_any (n : Int) (A : Option Addr) (c base : Nat) (es : List (Int × Int)) (k : Int) (w : World) (own : OwnE w base (.slice A es.length c) es) (hl : es.length ≤ 1048576) (k0 : 0 ≤ k) (k1 : k ≤ 10) (_hb : base ≤ w.heap.size) :
    Calls Try.prog 23 #[.agg #[.int .i64 n, .slice A es.length c], .int .i64 k] w (MarkedE w base (.slice A es.length c) k es.length) := by
  have hbox := (Below.refl w.heap.size w).alloc (Nat.le_refl _) (.cells #[.int .i64 n, .slice A es.length c] 29)
  have own' := own.below hbox own.lt
  go_enter Try.func23, Try.ntmps23
  go_wp2_with fail
  refine (markEdgeS_any _ _ _ _ _ _ own' hl k0 k1).mono ?_
  rintro e1 w1 ⟨rfl, own1, hg1⟩
  go_wp2_with fail
  go_returns
  exact ⟨rfl, own1, ⟨hg1.os, hg1.tape, hg1.output, Nat.le_trans hbox.size hg1.size, fun i hi hne => (hg1.block i (by simp; omega) hne).trans (hbox.block i hi)⟩⟩

end Go.Proofs.Ytdacfeebidhgnaa

/- toNet: a net of the law's own type turned to one of the program's. -/
namespace Go.Proofs.Ytdacfeebidhgnaa
open Go.RowKit
set_option maxRecDepth 100000

theorem edge_info : (Try.prog.info? 57).map (fun i => (i.zero, i.size, i.bytes)) = some (some (.agg #[.int .i64 0, .int .i64 0]), 2, 16) := by kernel_rfl

theorem toEdge_any (a b : Int) (w : World) :
    Calls Try.prog 118 #[.agg #[.int .i64 a, .int .i64 b]] w fun e w' => e = .returned (.agg #[.int .i64 a, .int .i64 b]) ∧ Below w.heap.size w w' := by
  go_enter Try.func118, Try.ntmps118
  go_wp2
  go_returns
  exact ⟨rfl, by go_grown⟩

theorem toEdgeS_any (A : Option Addr) (c : Nat) (es : List (Int × Int)) (w : World) (hes : EdgesIn w w.heap.size A es) (hl : es.length ≤ 1048576) :
    Calls Try.prog 61 #[.slice A es.length c] w (MadeEdges w es) := by
  obtain ⟨i0, hi0, hz0, hz1, hz2⟩ := info_parts edge_info
  generalize hn : es.length = n at *
  have H := Lib.hid hn
  clear hn
  go_enter Try.func61, Try.ntmps61
  go_wp2_with (at_make; refine wpList_make_full _ rfl _ _ 27 rfl w.heap.size 57 i0 _ 2 Try.underlying27 hi0 hz0 hz1 .i64 .i64 n n n rfl rfl rfl rfl (by rw [hz2]; omega) (by simp [maxLen]; omega) (Nat.le_refl _) ?_; intro w1 hown1 hg1)
  have hst : OwnE w1 w.heap.size (.slice (some ⟨w.heap.size, 0, none⟩) n n) (List.replicate n (0, 0)) := by
    unfold OwnE; rw [List.length_replicate, ← madeCells_edges]; exact hown1
  have hb1 : Below w.heap.size w w1 := (Below.refl _ _).grown hg1 (Nat.le_refl _) (by simp)
  clear hown1 hg1 hz1 hz2 hi0 hz0
  go_loopw [4] (fun i wr => ∃ (k : Nat) (cur : List (Int × Int)), k ≤ n ∧ i = .int .i64 k ∧ Hid (cur.take k = es.take k) ∧ OwnE wr w.heap.size (.slice (some ⟨w.heap.size, 0, none⟩) n n) cur ∧ Below w.heap.size w wr) (fun i _ => n - (intOf i).toNat)
  case atStart => exact ⟨0, _, by omega, rfl, by simp [Hid], hst, hb1⟩
  case round =>
    obtain ⟨k, cur, hk, rfl, hall, hown, hb⟩ := hrel
    by_cases hlt : k < n
    · have k1 : k < es.length := by have := H.out; omega
      have k2 : k < cur.length := by have := hown.len; omega
      obtain ⟨b, off, rfl, hbb, g1, g2⟩ := (hes.below hb (by omega)) k _ (List.getElem?_eq_getElem k1)
      have hset := Lib.hid (take_set_succ k2 k1 hall.out)
      clear hes
      generalize es[k] = e at *
      have hgl := hown.lt w.heap.size rfl
      go_wp2_with (go_at_call 118; refine (toEdge_any _ _ _).mono ?_; rintro e1 w2 ⟨rfl, hb2⟩; have hown2 := hown.below hb2 hown.lt; obtain ⟨x, y, _, c1, c2, f1, f2⟩ := hown2.slot hlt; have hsz2 := hb2.size)
      go_roundw
      case rel => exact ⟨k + 1, cur.set k e, by omega, by go_num, hset.out, hown2.store k e.1 e.2, (((hb.trans (hb2.mono hb.size)).setCell (by simp) _).setCell (by simp) _)⟩
      case measure => simp [intOf]; omega
    · obtain rfl : k = n := by omega
      have hce : cur = es := by
        have := hall.out
        rw [List.take_of_length_le (by have := hown.len; omega), List.take_of_length_le (by rw [H.out]; omega)] at this
        exact this
      subst hce
      go_wp2
      go_returns
      exact ⟨w.heap.size, by rw [H.out]; rfl, by rw [H.out]; exact hown, hb⟩

theorem toNet_any (n : Int) (A : Option Addr) (c : Nat) (es : List (Int × Int)) (w : World) (hes : EdgesIn w w.heap.size A es) (hl : es.length ≤ 1048576) :
    Calls Try.prog 17 #[.agg #[.int .i64 n, .slice A es.length c]] w (MadeNet w n es) := by
  have hes' := hes.below (w' := ((w.alloc (.cells #[.int .i64 n, .slice A es.length c] 24)).alloc (.cells #[.int .i64 0, .slice none 0 0] 29)).alloc (.cells #[.int .i64 n, .slice none 0 0] 29)) (by go_grown) (Nat.le_refl _)
  go_enter Try.func17, Try.ntmps17
  go_wp2_with (go_at_call 61; refine (toEdgeS_any _ _ _ _ (hes'.more (by simp; omega)) hl).mono ?_; rintro e1 w2 ⟨g, rfl, hown, hb⟩; have hc := oldCell hb; have hf := oldMark hb; have hz := hb.size)
  have hge := hown.ge
  simp only [World.size_alloc] at hge
  refine bodyPost_ret (v := .agg #[.int .i64 n, .slice (some ⟨g, 0, none⟩) es.length es.length]) (by simp [results, Try.results17, go_sem, hc]) rfl ?_
  refine ⟨g, rfl, OwnE.far (OwnE.far (OwnE.far (hown.more (by simp; omega)) ?_ _) ?_ _) ?_ _, ?_⟩
  · intro k hk; simp [Value.ownBlock] at hk; simp; omega
  · intro k hk; simp [Value.ownBlock] at hk; simp; omega
  · intro k hk; simp [Value.ownBlock] at hk; simp; omega
  · refine Below.setCell (Below.setCell (Below.setCell (Below.trans ?_ (hb.mono (by simp; omega))) (by simp; omega) _) (by simp) _) (by simp) _
    go_grown

theorem szEdgeS_any (A : Option Addr) (c n : Nat) (m : Int) (w : World) (hn : n ≤ 9223372036854775807) (h0 : 0 ≤ m) (h1 : m ≤ 1048576) :
    Calls Try.prog 59 #[.slice A n c, .int .i64 m] w fun e w' => e = .returned (.int .i64 (if m < n then -1 else m - n)) ∧ Below w.heap.size w w' := by
  by_cases hlt : m < n
  · go_enter Try.func59, Try.ntmps59
    go_wp2
    go_returns
    exact ⟨rfl, by go_grown⟩
  · go_enter Try.func59, Try.ntmps59
    go_wp2
    go_returns
    exact ⟨rfl, by go_grown⟩

theorem szNet_any (v : Int) (A : Option Addr) (c n : Nat) (m : Int) (w : World) (hn : n ≤ 9223372036854775807) (h0 : 0 ≤ m) (h1 : m ≤ 1048576) :
    Calls Try.prog 15 #[.agg #[.int .i64 v, .slice A n c], .int .i64 m] w fun e w' => e = .returned (.int .i64 (if m < n then -1 else m - n)) ∧ Below w.heap.size w w' := by
  have hbw : Hid (Below w.heap.size w (w.alloc (.cells #[.int .i64 v, .slice A n c] 24))) := Lib.hid (by go_grown)
  by_cases hlt : m < n
  · go_enter Try.func15, Try.ntmps15
    go_wp2_with (go_at_call 59; refine (szEdgeS_any _ _ _ _ _ hn h0 h1).mono ?_; rw [if_pos hlt]; rintro e1 w2 ⟨rfl, hb⟩)
    go_returns
    exact ⟨rfl, hbw.out.trans (hb.mono (by simp))⟩
  · go_enter Try.func15, Try.ntmps15
    go_wp2_with (go_at_call 59; refine (szEdgeS_any _ _ _ _ _ hn h0 h1).mono ?_; rw [if_neg hlt]; rintro e1 w2 ⟨rfl, hb⟩)
    go_returns
    exact ⟨rfl, hbw.out.trans (hb.mono (by simp))⟩
theorem szNet_big (v : Int) (A : Option Addr) (c n : Nat) (w : World) (hn : n ≤ 9223372036854775807) (h : 1048576 < n) :
    Calls Try.prog 15 #[.agg #[.int .i64 v, .slice A n c], .int .i64 1048576] w fun e w' => e = .returned (.int .i64 (-1)) ∧ Below w.heap.size w w' :=
  (szNet_any v A c n 1048576 w hn (by omega) (by omega)).mono fun _ _ ⟨he, hb⟩ => ⟨by rw [he, if_pos (by omega)], hb⟩
theorem szNet_small (v : Int) (A : Option Addr) (c n : Nat) (w : World) (h : n ≤ 1048576) :
    Calls Try.prog 15 #[.agg #[.int .i64 v, .slice A n c], .int .i64 1048576] w fun e w' => e = .returned (.int .i64 (1048576 - n)) ∧ Below w.heap.size w w' :=
  (szNet_any v A c n 1048576 w (by omega) (by omega) (by omega)).mono fun _ _ ⟨he, hb⟩ => ⟨by rw [he, if_neg (by omega)], hb⟩
end Go.Proofs.Ytdacfeebidhgnaa
