/- Each of a list with each one of another list that fits it; a family of a list: the program's. -/
import Derived.Test.YtlcgbmeneajfoaaImpl8c
import Derived.Test.YtlcgbmeneajfoaaFamL
import Derived.Deep.AppendLies
namespace Go.Proofs.Ytlcgbmeneajfoaa
open Go.RowKit
set_option maxRecDepth 100000

theorem cell_same {u u' : World} {g k : Nat} (h : u'.heap[g]? = u.heap[g]?) : u'.cell? ⟨g, k, none⟩ = u.cell? ⟨g, k, none⟩ := by simp only [World.cell?, h]
/-- A list's numbers lie in a block from lo on, before hi. -/
def Between (u : World) (lo hi : Nat) (A : Option Addr) (xs : List Int) : Prop := ∀ k x, xs[k]? = some x → ∃ g, A = some ⟨g, 0, none⟩ ∧ lo ≤ g ∧ g < hi ∧ u.cell? ⟨g, k, none⟩ = some (.int .i64 x)
theorem Between.of {u : World} {lo n c : Nat} {A : Option Addr} {xs : List Int} (h : OwnI u lo (.slice A n c) xs) : Between u lo u.heap.size A xs := fun k x hk => by
  obtain ⟨b, off, rfl, hb, hc⟩ := h.ints k x hk
  have hge := h.ge b rfl
  have hoff : off = 0 := by
    rcases h.form with ⟨hv, _⟩ | ⟨g, cap, hv, _, _⟩
    · cases hv
    · injection hv with h1 _ _
      injection h1 with h1
      injection h1
  subst hoff
  rw [Nat.zero_add] at hc
  exact ⟨b, rfl, hge, hb, hc⟩
theorem Between.grown {u u' : World} {lo hi : Nat} {A : Option Addr} {xs : List Int} {r : Option Nat} (h : Between u lo hi A xs) (hg : u.grownBy u' r) (hhi : hi ≤ u.heap.size) (hr : ∀ b, r = some b → b < lo ∨ hi ≤ b) : Between u' lo hi A xs := fun k x hk => by
  obtain ⟨g, rfl, h1, h2, h3⟩ := h k x hk
  refine ⟨g, rfl, h1, h2, (cell_same (hg.block g (by omega) fun e => ?_)).trans h3⟩
  have := hr g e.symm
  omega
theorem Between.alloc {u : World} {lo hi : Nat} {A : Option Addr} {xs : List Int} (h : Between u lo hi A xs) (hhi : hi ≤ u.heap.size) (o : Obj) : Between (u.alloc o) lo hi A xs :=
  h.grown (World.grownBy_alloc u o none) hhi (fun b e => by cases e)

theorem eachOne_any (F : FuncId) (fits : Nat → Nat → Bool) (x y g5 g9 : Nat) (u : World) (c5 : u.cell? ⟨g5, 0, none⟩ = some (.func (.func F) #[] #[])) (c9 : u.cell? ⟨g9, 0, none⟩ = some (.int .i64 x))
    (hF : ∀ (args : Array Value) (u : World), (callFunc F args).run Try.prog u = .ok (.enter F args) u)
    (hq : Calls Try.prog F #[.int .i64 x, .int .i64 y] u fun e w' => e = .returned (.bool (fits x y)) ∧ u = w') :
    Calls Try.prog 81 #[.int .i64 y, .pointer (some ⟨g5, 0, none⟩), .pointer (some ⟨g9, 0, none⟩)] u fun e w' => e = .returned (.bool (fits x y)) ∧ Below u.heap.size u w' := by
  have H := Lib.hid hq
  clear hq
  generalize fits x y = v at *
  go_enter Try.func81, Try.ntmps81
  go_wp2_with fail
  refine H.out.mono ?_
  rintro e1 w1 ⟨rfl, rfl⟩
  go_wp2_with fail
  go_returns
  exact ⟨rfl, Below.refl _ _⟩

theorem alloc_heap8 {u : World} {o : Obj} {g : Nat} (h : g < u.heap.size) : (u.alloc o).heap[g]? = u.heap[g]? := ((Below.refl u.heap.size u).alloc (Nat.le_refl _) o).block g h
theorem withEach_take (fits : Nat → Nat → Bool) (ns ms : List Nat) {k : Nat} (hk : k < ns.length) : withEach fits (ns.take (k + 1)) ms = withEach fits (ns.take k) ms ++ withOne fits ms (ns.getD k 0) := by
  have : ns.take (k + 1) = ns.take k ++ [ns.getD k 0] := by rw [List.take_add_one]; simp [List.getD, hk]
  rw [this]; unfold withEach; rw [List.flatMap_append]; simp
theorem map_take_more (x : Nat) (fs : List Nat) {j : Nat} (hj : j < fs.length) : (fs.take (j + 1)).map (fun y => x ||| y) = (fs.take j).map (fun y => x ||| y) ++ [x ||| fs.getD j 0] := by
  have : fs.take (j + 1) = fs.take j ++ [fs.getD j 0] := by rw [List.take_add_one]; simp [List.getD, hj]
  rw [this]; simp
theorem natI_app (xs ys : List Nat) : natI (xs ++ ys) = natI xs ++ natI ys := by simp [natI]
theorem nat_at {ns : List Nat} {k : Nat} (h : k < ns.length) : (natI ns)[k]? = some ((ns.getD k 0 : Nat) : Int) := by simp [natI, List.getD, h]
theorem nat_mem {ns : List Nat} {k : Nat} (h : k < ns.length) : ns.getD k 0 ∈ ns := by
  rw [List.getD_eq_getElem?_getD, List.getElem?_eq_getElem h]; exact List.getElem_mem h

set_option maxHeartbeats 1000000 in
theorem each_any (F : FuncId) (fits : Nat → Nat → Bool) (A B : Option Addr) (c d : Nat) (ns ms : List Nat) (w : World) (hA : IntsIn w w.heap.size A (natI ns)) (hB : IntsIn w w.heap.size B (natI ms)) (hn : ns.length ≤ 64) (hm : ms.length ≤ 64)
    (hns : ∀ x ∈ ns, x ≤ 8192) (hms : ∀ x ∈ ms, x ≤ 8192) (hF : ∀ (args : Array Value) (u : World), (callFunc F args).run Try.prog u = .ok (.enter F args) u)
    (hq : ∀ u x y, x ≤ 8192 → y ≤ 8192 → Calls Try.prog F #[.int .i64 (x : Nat), .int .i64 (y : Nat)] u fun e w' => e = .returned (.bool (fits x y)) ∧ u = w') :
    Calls Try.prog 62 #[.slice A ns.length c, .slice B ms.length d, .func (.func F) #[] #[]] w (GotInts w (natI (withEach fits ns ms))) := by
  have hmf : ∀ (fn : Fn) (first cap : Array Value) (w : World), (Instr.makeFunc fn first cap).run Try.prog w = .ok (.func fn first cap) w := fun _ _ _ _ => rfl
  obtain ⟨i0, hi0, hz0, hz1, hz2⟩ := info_parts int_info
  have B0 := (Below.refl w.heap.size w).alloc (Nat.le_refl _) (.cells #[.func (.func F) #[] #[]] 54)
  have C0 : (w.alloc (.cells #[.func (.func F) #[] #[]] 54)).cell? ⟨w.heap.size, 0, none⟩ = some (.func (.func F) #[] #[]) := by rw [World.cell?_alloc_at _ _ _ _ rfl]; rfl
  have HQ := Lib.hid hq
  have HF := Lib.hid hF
  have HNS := Lib.hid hns
  have HMS := Lib.hid hms
  have HA := Lib.hid hA
  have HB := Lib.hid hB
  obtain ⟨n, hnn⟩ : ∃ n, ns.length = n := ⟨_, rfl⟩
  obtain ⟨m, hmm⟩ : ∃ m, ms.length = m := ⟨_, rfl⟩
  rw [hnn, hmm]
  rw [hnn] at hn
  rw [hmm] at hm
  have HN := Lib.hid hnn
  have HM := Lib.hid hmm
  have HALL : Hid (withEach fits (ns.take n) ms = withEach fits ns ms) := by rw [Hid, ← hnn, List.take_length]
  have HLEN : Hid (∀ k, k ≤ n → (withEach fits (ns.take k) ms).length ≤ 4096) := fun k hk => by
    have h := withEach_len fits ms (ns.take k)
    rw [List.length_take, hmm] at h
    have : min k ns.length * m ≤ 64 * 64 := Nat.mul_le_mul (by omega) hm
    omega
  clear hq hF hns hms hA hB hnn hmm
  go_enter Try.func62, Try.ntmps62
  go_wp2_with fail
  go_loopw [7, 14] (fun v i wr => ∃ k : Nat, k ≤ n ∧ i = .int .i64 (k : Nat) ∧ OwnI wr (w.heap.size + 1) v (natI (withEach fits (ns.take k) ms)) ∧ wr.cell? ⟨w.heap.size, 0, none⟩ = some (.func (.func F) #[] #[]) ∧ Below w.heap.size w wr ∧ w.heap.size < wr.heap.size) (fun _ i _ => n - (intOf i).toNat)
  case atStart => exact ⟨0, by omega, rfl, OwnI.nil _ _, C0, B0, by simp⟩
  case round =>
    clear C0 B0
    obtain ⟨k, hk, rfl, own, hc5, hb, hsz⟩ := hrel
    by_cases hlt : k < n
    · have k1 : k < ns.length := by rw [HN.out]; exact hlt
      have hx8 := HNS.out _ (nat_mem k1)
      obtain ⟨b, off, rfl, hbb, g1⟩ := (HA.out.below hb (Nat.le_refl _)) k _ (nat_at k1)
      have HNEXT := Lib.hid (withEach_take fits ns ms k1)
      have hlen := HLEN.out k (by omega)
      generalize ns.getD k 0 = x at *
      generalize withEach fits (ns.take k) ms = done at *
      clear k1
      have hb2 := (Below.refl wr.heap.size wr).alloc (Nat.le_refl _) (.cells #[.int .i64 x] 3)
      have c9 : (wr.alloc (.cells #[.int .i64 x] 3)).cell? ⟨wr.heap.size, 0, none⟩ = some (.int .i64 x) := by rw [World.cell?_alloc_at _ _ _ _ rfl]; rfl
      have hin2 := (HB.out.below (hb.trans (hb2.mono (by omega))) (Nat.le_refl _)).more (B' := (wr.alloc (.cells #[.int .i64 x] 3)).heap.size) (by simp; omega)
      have c5 := (hb2.cell (p := ⟨w.heap.size, 0, none⟩) hsz).trans hc5
      have HS := sieve_any 81 #[.pointer (some ⟨w.heap.size, 0, none⟩), .pointer (some ⟨wr.heap.size, 0, none⟩)] (fun y => fits x y.toNat) B d (natI ms) (wr.alloc (.cells #[.int .i64 x] 3)) hin2 (by rw [natI_length, HM.out]; omega)
        (fun _ _ => rfl) (fun u hu y hy => by
          obtain ⟨p, hp, rfl⟩ := List.mem_map.1 hy
          exact eachOne_any F fits x p w.heap.size wr.heap.size u ((hu.cell (p := ⟨w.heap.size, 0, none⟩) (by simp; omega)).trans c5) ((hu.cell (p := ⟨wr.heap.size, 0, none⟩) (by simp)).trans c9) HF.out (HQ.out u x p hx8 (HMS.out p hp)))
      rw [natI_length, HM.out, natI_filter] at HS
      have ef : (ms.filter fun y : Nat => fits x ((y : Nat) : Int).toNat) = ms.filter (fits x) := rfl
      rw [ef] at HS
      have HONE : Hid ((ms.filter (fits x)).map (fun y => x ||| y) = withOne fits ms x) := rfl
      have hfl : (ms.filter (fits x)).length ≤ 64 := Nat.le_trans (List.length_filter_le _ _) (by rw [HM.out]; exact hm)
      have hf8 : Hid (∀ y ∈ ms.filter (fits x), y ≤ 8192) := fun y hy => HMS.out y (List.mem_filter.1 hy).1
      generalize ms.filter (fits x) = fs at *
      have HS := Lib.hid HS
      have C9 := Lib.hid c9
      have C5 := Lib.hid c5
      have hg : w.heap.size + 1 ≤ wr.heap.size := by omega
      have O1 := own.below hb2 own.lt
      have olt := own.lt
      clear c9 c5 hin2 ef
      go_wp2_with fail
      refine HS.out.mono ?_
      clear HS
      rintro e1 w1 ⟨A1, k1, rfl, own1, hb3⟩
      rw [natI_length] at own1 ⊢
      have hwz : (wr.alloc (.cells #[.int .i64 x] 3)).heap.size = wr.heap.size + 1 := by simp
      rw [hwz] at own1 hb3
      have sz1 := hb3.size
      rw [hwz] at sz1
      have BT := Between.of own1
      have D9 := (hb3.cell (p := ⟨wr.heap.size, 0, none⟩) (by simp)).trans C9.out
      have D5 := (hb3.cell (p := ⟨w.heap.size, 0, none⟩) (by simp; omega)).trans C5.out
      have O2 := O1.below hb3 (fun kb hkb => by have := olt kb hkb; omega)
      have hb4 : Below w.heap.size w w1 := hb.trans ((hb2.mono (by omega)).trans (hb3.mono (by omega)))
      have O3 : OwnI w1 (w.heap.size + 1) u7 (natI (done ++ (fs.take 0).map (fun y => x ||| y))) := by rw [List.take_zero, List.map_nil, List.append_nil]; exact O2
      have HD5 : Hid ((wr.alloc (.cells #[.int .i64 x] 3)).cell? ⟨w.heap.size, 0, none⟩ = some (.func (.func F) #[] #[])) := C5.out
      clear C9 C5 O1 O2 own own1 hb3 hb2 hb hwz g1 hc5
      obtain ⟨z, hz⟩ : ∃ z, wr.heap.size = z := ⟨_, rfl⟩
      rw [hz] at BT sz1 D9 olt hg ⊢
      clear hz HD5
      obtain ⟨z3, hz3⟩ : ∃ z3, w1.heap.size = z3 := ⟨_, rfl⟩
      rw [hz3] at BT sz1
      obtain ⟨l, hfl2⟩ : ∃ l, fs.length = l := ⟨_, rfl⟩
      rw [hfl2] at hfl ⊢
      have HFL := Lib.hid hfl2
      have hsz4 : z3 ≤ w1.heap.size := by omega
      have HZ3 := Lib.hid hz3
      clear hfl2 hz3
      have olt3 : ∀ kb, u7.ownBlock = some kb → kb < z ∨ z3 ≤ kb := fun kb hkb => .inl (olt kb hkb)
      clear olt
      go_wp2_with fail
      go_loopw [7, 22] (fun v i wv => ∃ j : Nat, j ≤ l ∧ i = .int .i64 (j : Nat) ∧ OwnI wv (w.heap.size + 1) v (natI (done ++ (fs.take j).map (fun y => x ||| y))) ∧ (∀ kb, v.ownBlock = some kb → kb < z ∨ z3 ≤ kb) ∧ Between wv (z + 1) z3 A1 (natI fs) ∧
        wv.cell? ⟨z, 0, none⟩ = some (.int .i64 x) ∧ wv.cell? ⟨w.heap.size, 0, none⟩ = some (.func (.func F) #[] #[]) ∧ Below w.heap.size w wv ∧ z3 ≤ wv.heap.size) (fun _ i _ => l - (intOf i).toNat)
      case atStart => exact ⟨0, by omega, rfl, O3, olt3, BT, D9, D5, hb4, hsz4⟩
      case round =>
        clear O3 olt3 BT D9 D5 hb4 hsz4
        obtain ⟨j, hj, rfl, ownv, hvb, BT, D9, D5, hb4, hsz4⟩ := hrel
        by_cases hlj : j < l
        · have j1 : j < fs.length := by rw [HFL.out]; exact hlj
          have hy8 := hf8.out _ (nat_mem j1)
          obtain ⟨g, rfl, hg1, hg2, hg3⟩ := BT j _ (nat_at j1)
          have HNXT := Lib.hid (map_take_more x fs j1)
          have hlen2 : (natI (done ++ (fs.take j).map (fun y => x ||| y))).length ≤ 4200 := by
            rw [natI_length, List.length_append, List.length_map, List.length_take]; omega
          generalize fs.getD j 0 = y at *
          have ho := or_small hx8 hy8
          have HNEW : Hid (natI (done ++ (fs.take (j + 1)).map (fun y => x ||| y)) = natI (done ++ (fs.take j).map (fun y => x ||| y)) ++ [((x ||| y : Nat) : Int)]) := by
            rw [Hid, HNXT.out, ← List.append_assoc, natI_app]; rfl
          generalize natI (done ++ (fs.take j).map (fun y => x ||| y)) = cur at *
          generalize x ||| y = q at *
          clear HNXT j1
          go_wp2_with (at_builtin; refine wpList_append_lies _ rfl _ _ 22 rfl (w.heap.size + 1) 3 i0 (.int .i64 0) 1 8 Try.underlying22 hi0 hz0 hz1 hz2 rfl (by decide) _ _ _ rfl (World.ownsRow.alloc ownv _) ⟨wr.heap.size, 0, none⟩ 1 1 [.int .i64 (q : Nat)] rfl rfl (one_cell (q : Nat) _ _) (by intro u hu; simp at hu; subst hu; rfl) (by decide) (by unfold maxLen; omega) (by omega) (by simp; omega) _ rfl ?_; intro gg cc w5 hown5 hgrow hat hlt5)
          go_roundw
          case rel =>
            have hsz5 := hgrow.size
            simp only [World.size_alloc] at hsz5 hat
            have hlv := World.ownsRow.lt ownv
            have hb5 : Below w.heap.size w w5 := (hb4.alloc hb4.size _).grown hgrow (by simp; omega) (fun kb hkb => by have := hlv kb hkb; omega)
            refine ⟨j + 1, by omega, by go_num, ?_, ?_, (BT.alloc hsz4 _).grown hgrow (by simp; omega) (fun kb hkb => by have := hvb kb hkb; have := hlv kb hkb; omega), ?_, ?_, hb5, by omega⟩
            · rw [HNEW.out]
              unfold OwnI
              rw [ints_append, List.length_append]; exact hown5
            · intro kb hkb
              have e : gg = kb := Option.some.inj hkb
              subst e
              rcases hat with h | h
              · exact hvb _ h
              · exact .inr (by omega)
            · refine (cell_same ((hgrow.block z (by simp; omega) fun e => ?_).trans (alloc_heap8 (by omega)))).trans D9
              have h1 := hvb z e.symm
              omega
            · refine (cell_same ((hgrow.block w.heap.size (by simp; omega) fun e => ?_).trans (alloc_heap8 (by omega)))).trans D5
              have h1 := hlv _ e.symm
              omega
          case measure => simp [intOf]; omega
        · obtain rfl : j = l := by omega
          have HEND : Hid (natI (done ++ (fs.take j).map (fun y => x ||| y)) = natI (withEach fits (ns.take (k + 1)) ms)) := by
            rw [Hid, HNEXT.out, ← HONE.out, ← HFL.out, List.take_length]
          rw [HEND.out] at ownv
          go_wp2_with fail
          go_roundw
          case rel => exact ⟨k + 1, by omega, by go_num, ownv, D5, hb4, by omega⟩
          case measure => simp [intOf]; omega
    · obtain rfl : k = n := by omega
      rw [HALL.out] at own
      rcases own.form with ⟨rfl, h0⟩ | ⟨g, cc, rfl, _, _⟩
      · go_wp2_with fail
        go_returns
        refine ⟨none, 0, by rw [h0]; rfl, ?_, hb⟩
        rw [h0] at own ⊢
        exact own.more (by omega)
      · go_wp2_with fail
        go_returns
        exact ⟨some ⟨g, 0, none⟩, cc, rfl, own.more (by omega), hb⟩
end Go.Proofs.Ytlcgbmeneajfoaa
