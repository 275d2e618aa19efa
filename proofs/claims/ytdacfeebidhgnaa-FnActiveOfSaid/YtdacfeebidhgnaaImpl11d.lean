/- Chapter 11 of the program: ByBases. -/
import Derived.Test.YtdacfeebidhgnaaSpec11e
import Derived.Test.YtdacfeebidhgnaaImpl11a
import Derived.Test.YtdacfeebidhgnaaImpl11b
namespace Go.Proofs.Ytdacfeebidhgnaa
open Go.RowKit
set_option maxRecDepth 100000

/-- The boxes of ByBases: the net, a list, and two rows of powers. -/
def ListAt (w u : World) (n : Int) (A : Option Addr) (cap : Nat) (es : List (Int × Int)) (g8 : Nat) (B : Option Addr) (d8 : Nat) (ls : List Int) (g9 b9 d9 : Nat) (xs : List Int) (g10 b10 d10 : Nat) (ys : List Int) : Prop :=
  ArgNet w u n A cap es ∧ (u.cell? ⟨g8, 0, none⟩ = some (.slice B ls.length d8) ∧ IntsIn u u.heap.size B ls ∧ g8 < u.heap.size) ∧
  (u.cell? ⟨g9, 0, none⟩ = some (.slice (some ⟨b9, 0, none⟩) xs.length d9) ∧ IntsIn u u.heap.size (some ⟨b9, 0, none⟩) xs ∧ g9 < u.heap.size) ∧
  (u.cell? ⟨g10, 0, none⟩ = some (.slice (some ⟨b10, 0, none⟩) ys.length d10) ∧ IntsIn u u.heap.size (some ⟨b10, 0, none⟩) ys ∧ g10 < u.heap.size)
section
variable {w u : World} {n : Int} {A B : Option Addr} {cap g8 d8 g9 b9 d9 g10 b10 d10 : Nat} {es : List (Int × Int)} {ls xs ys : List Int}
theorem ListAt.on (h : ListAt w u n A cap es g8 B d8 ls g9 b9 d9 xs g10 b10 d10 ys) : ∀ u', Below u.heap.size u u' → ListAt w u' n A cap es g8 B d8 ls g9 b9 d9 xs g10 b10 d10 ys := fun _ hb =>
  ⟨h.1.on _ hb, ⟨(hb.cell (p := ⟨g8, 0, none⟩) h.2.1.2.2).trans h.2.1.1, (h.2.1.2.1.below hb (Nat.le_refl _)).more hb.size, Nat.lt_of_lt_of_le h.2.1.2.2 hb.size⟩,
    ⟨(hb.cell (p := ⟨g9, 0, none⟩) h.2.2.1.2.2).trans h.2.2.1.1, (h.2.2.1.2.1.below hb (Nat.le_refl _)).more hb.size, Nat.lt_of_lt_of_le h.2.2.1.2.2 hb.size⟩,
    ⟨(hb.cell (p := ⟨g10, 0, none⟩) h.2.2.2.2.2).trans h.2.2.2.1, (h.2.2.2.2.1.below hb (Nat.le_refl _)).more hb.size, Nat.lt_of_lt_of_le h.2.2.2.2.2 hb.size⟩⟩
end
/-- The net, and a list in a box, which lies below it. -/
def InL (w : World) (n : Int) (A : Option Addr) (cap : Nat) (es : List (Int × Int)) (g8 : Nat) (B : Option Addr) (d8 : Nat) (ls : List Int) (X : World) : Prop :=
  X.cell? ⟨w.heap.size, 1, none⟩ = some (.slice A es.length cap) ∧ ArgNet w X n A cap es ∧ w.heap.size < g8 ∧ g8 < X.heap.size ∧ X.cell? ⟨g8, 0, none⟩ = some (.slice B ls.length d8) ∧ IntsIn X g8 B ls
section
variable {w X u : World} {n : Int} {A B : Option Addr} {cap d8 : Nat} {es : List (Int × Int)} {g8 : Nat} {ls : List Int}
theorem InL.call (h : InL w n A cap es g8 B d8 ls X) (hb : Below X.heap.size X u) : InL w n A cap es g8 B d8 ls u :=
  ⟨(h.2.1.on _ hb).c1, h.2.1.on _ hb, h.2.2.1, Nat.lt_of_lt_of_le h.2.2.2.1 hb.size, (hb.cell (p := ⟨g8, 0, none⟩) h.2.2.2.1).trans h.2.2.2.2.1, h.2.2.2.2.2.below hb (Nat.le_of_lt h.2.2.2.1)⟩
theorem InL.alloc (h : InL w n A cap es g8 B d8 ls X) (o : Obj) : InL w n A cap es g8 B d8 ls (X.alloc o) := h.call ((Below.refl _ _).alloc (Nat.le_refl _) o)
theorem InL.drew (h : InL w n A cap es g8 B d8 ls X) : InL w n A cap es g8 B d8 ls X.drew := h.call ((Below.refl _ _).drew)
theorem InL.set (h : InL w n A cap es g8 B d8 ls X) {g : Nat} (hg : g8 < g) (v : Value) : InL w n A cap es g8 B d8 ls (X.setCell ⟨g, 0, none⟩ v) :=
  ⟨(argPut h.2.1 (by have := h.2.2.1; omega) v).c1, argPut h.2.1 (by have := h.2.2.1; omega) v, h.2.2.1, by have := h.2.2.2.1; simp; omega, (World.cell?_setCell_far _ _ _ _ (by simp; omega)).trans h.2.2.2.2.1,
    h.2.2.2.2.2.below ((Below.refl g8 X).setCell (by simp; omega) v) (Nat.le_refl _)⟩
theorem InL.new (D : ArgNet w u n A cap es) (hi : IntsIn u u.heap.size B ls) (ty : TypeId) : InL w n A cap es u.heap.size B d8 ls (u.alloc (.cells #[.slice B ls.length d8] ty)) :=
  ⟨(argAlloc D _).c1, argAlloc D _, D.lt, by simp, by rw [World.cell?_alloc_at _ _ _ _ rfl]; rfl, hi.alloc (Nat.le_refl _) _⟩
end

set_option maxHeartbeats 4000000 in
theorem baseOne_any (n x y : Int) (A : Option Addr) (cap g8 gB d8 g9 b9 d9 g10 b10 d10 : Nat) (es : List (Int × Int)) (k : Nat) (w u : World) (hn : netOkB n es = true) (hx : inFour x = true) (hy : inFour y = true) (hk : k < (basesN n es).length)
    (D : ListAt w u n A cap es g8 (some ⟨gB, 0, none⟩) d8 (natI (basesN n es)) g9 b9 d9 (pwI x es.length) g10 b10 d10 (pwI y es.length)) :
    Calls Try.prog 87 #[.int .i64 k, .pointer (some ⟨w.heap.size, 0, none⟩), .pointer (some ⟨g8, 0, none⟩), .pointer (some ⟨g9, 0, none⟩), .pointer (some ⟨g10, 0, none⟩)] u fun e w' => e = .returned (.int .i64 (baseT es x y ((basesN n es).getD k 0))) ∧ Below u.heap.size u w' := by
  have h9 := (netOkB_iff.1 hn).2.1
  have hT := baseT_great h9 hx hy ((basesN n es).getD k 0)
  have hle := act_le es ((basesN n es).getD k 0)
  have hTD : baseT es x y ((basesN n es).getD k 0) = x ^ actI es ((basesN n es).getD k 0) * y ^ actO es ((basesN n es).getD k 0) := rfl
  obtain ⟨wm1, wm2⟩ := mulT_wrap hTD hT
  have hac : Hid (∀ u, ArgNet w u n A cap es → Calls Try.prog 27 #[.agg #[.int .i64 n, .slice A es.length cap], .int .i64 ((basesN n es).getD k 0 : Nat)] u fun e w' => e = .returned (.tuple #[.int .i64 (actI es ((basesN n es).getD k 0) : Nat), .int .i64 (actO es ((basesN n es).getD k 0) : Nat), .bool true]) ∧ Below u.heap.size u w') := fun u h => by
    have h1 := bases_at hk
    have := activeOf_any n ((basesN n es).getD k 0 : Nat) A cap es u h.edges (by omega)
    unfold actIn actOut at this
    rwa [h1, if_pos rfl, if_pos rfl, Int.toNat_natCast] at this
  have hat := natBases_at hk
  have hnl := natI_length (basesN n es)
  have HX : Hid (∀ v, ListAt w v n A cap es g8 (some ⟨gB, 0, none⟩) d8 (natI (basesN n es)) g9 b9 d9 (pwI x es.length) g10 b10 d10 (pwI y es.length) → v.cell? ⟨b9, 0 + actI es ((basesN n es).getD k 0), none⟩ = some (.int .i64 (x ^ actI es ((basesN n es).getD k 0)))) := fun v h => ints_cell h.2.2.1.2.1 (pwI_get x es.length (by omega))
  have HY : Hid (∀ v, ListAt w v n A cap es g8 (some ⟨gB, 0, none⟩) d8 (natI (basesN n es)) g9 b9 d9 (pwI x es.length) g10 b10 d10 (pwI y es.length) → v.cell? ⟨b10, 0 + actO es ((basesN n es).getD k 0), none⟩ = some (.int .i64 (y ^ actO es ((basesN n es).getD k 0)))) := fun v h => ints_cell h.2.2.2.2.1 (pwI_get y es.length (by omega))
  have HL : Hid (∀ v, ListAt w v n A cap es g8 (some ⟨gB, 0, none⟩) d8 (natI (basesN n es)) g9 b9 d9 (pwI x es.length) g10 b10 d10 (pwI y es.length) → v.cell? ⟨gB, 0 + k, none⟩ = some (.int .i64 ((basesN n es).getD k 0 : Nat))) := fun v h => ints_cell h.2.1.2.1 hat
  have lx := pwI_length x es.length
  have ly := pwI_length y es.length
  rw [← hnl] at hk
  obtain ⟨xs, hxs⟩ : ∃ xs, pwI x es.length = xs := ⟨_, rfl⟩
  obtain ⟨ys, hys⟩ : ∃ ys, pwI y es.length = ys := ⟨_, rfl⟩
  obtain ⟨ls, hls⟩ : ∃ ls, natI (basesN n es) = ls := ⟨_, rfl⟩
  rw [hxs] at D HX HY HL lx
  rw [hys] at D HX HY HL ly
  rw [hls] at D HX HY HL hk
  clear hxs hys hls hTD hT hn hx hy hat hnl
  generalize baseT es x y ((basesN n es).getD k 0) = T at *
  generalize x ^ actI es ((basesN n es).getD k 0) = Y at *
  generalize y ^ actO es ((basesN n es).getD k 0) = Z at *
  generalize actI es ((basesN n es).getD k 0) = a at *
  generalize actO es ((basesN n es).getD k 0) = b at *
  generalize (basesN n es).getD k 0 = s at *
  have ia : (a : Int) < (xs.length : Int) := by omega
  have ib : (b : Int) < (ys.length : Int) := by omega
  have ik : (k : Int) < (ls.length : Int) := by omega
  clear lx ly hle
  have hac1 : Hid (∀ v, (ListAt w v n A cap es g8 (some ⟨gB, 0, none⟩) d8 ls g9 b9 d9 xs g10 b10 d10 ys ∧ Below u.heap.size u v) → _) := fun v h => hac.out v h.1.1
  go_enter Try.func87, Try.ntmps87
  go_wp2_with fail
  refine wp_region_class (fun v => ListAt w v n A cap es g8 (some ⟨gB, 0, none⟩) d8 ls g9 b9 d9 xs g10 b10 d10 ys ∧ Below u.heap.size u v) (by kernel_rfl) (by kernel_rfl) ⟨D.on _ ((Below.refl _ _).drew), (Below.refl _ _).drew⟩ ?_
  clear D
  intro X hX f hf hex
  have c0 : ∀ x, (f x).cell? ⟨w.heap.size, 0, none⟩ = some (.int .i64 n) := fun x => (hf x).1.1.c0
  have c1 : ∀ x, (f x).cell? ⟨w.heap.size, 1, none⟩ = some (.slice A es.length cap) := fun x => (hf x).1.1.c1
  have c2 : ∀ x, (f x).cell? ⟨g8, 0, none⟩ = some (.slice (some ⟨gB, 0, none⟩) ls.length d8) := fun x => (hf x).1.2.1.1
  have c3 : ∀ x, (f x).cell? ⟨gB, k, none⟩ = some (.int .i64 (s : Nat)) := fun x => by have := HL.out _ (hf x).1; rwa [Nat.zero_add] at this
  have hon : ∀ x, ∀ v', Below (f x).heap.size (f x) v' → (ListAt w v' n A cap es g8 (some ⟨gB, 0, none⟩) d8 ls g9 b9 d9 xs g10 b10 d10 ys ∧ Below u.heap.size u v') := fun x v' hb => ⟨(hf x).1.on _ hb, (hf x).2.trans (hb.mono (hf x).2.size)⟩
  repeat (go_big_quiet_step (first | (go_at_call 27; with_reducible exact class_of hex (hac1.out _ (hf _)) (hon _))))
  refine wpQuiet_nil ?_
  rintro _ ⟨x9, rfl⟩
  have D1 := hf x9
  generalize f x9 = W1 at *
  clear c0 c1 c2 c3 hf hex hon
  go_wp2_with fail
  refine wp_region_class (fun v => ListAt w v n A cap es g8 (some ⟨gB, 0, none⟩) d8 ls g9 b9 d9 xs g10 b10 d10 ys ∧ Below u.heap.size u v) (by kernel_rfl) (by kernel_rfl) ⟨D1.1.on _ ((Below.refl _ _).drew), D1.2.drew⟩ ?_
  clear D1
  intro X2 hX2 f hf hex
  have c3 : ∀ x, (f x).cell? ⟨g9, 0, none⟩ = some (.slice (some ⟨b9, 0, none⟩) xs.length d9) := fun x => (hf x).1.2.2.1.1
  have c4 : ∀ x, (f x).cell? ⟨g10, 0, none⟩ = some (.slice (some ⟨b10, 0, none⟩) ys.length d10) := fun x => (hf x).1.2.2.2.1
  have c5 : ∀ x, (f x).cell? ⟨b9, a, none⟩ = some (.int .i64 Y) := fun x => by have := HX.out _ (hf x).1; rwa [Nat.zero_add] at this
  have c6 : ∀ x, (f x).cell? ⟨b10, b, none⟩ = some (.int .i64 Z) := fun x => by have := HY.out _ (hf x).1; rwa [Nat.zero_add] at this
  repeat (go_big_quiet_step (fail))
  refine wpQuiet_nil ?_
  rintro _ ⟨x9, rfl⟩
  have F := (hf x9).2
  go_wp2_with fail
  go_returns
  exact ⟨by first | rfl | simp, F⟩

set_option maxHeartbeats 8000000 in
theorem byBases_any (n x y : Int) (A : Option Addr) (cap : Nat) (es : List (Int × Int)) (w : World) (hes : EdgesIn w w.heap.size A es) (hl : es.length ≤ 1048576) :
    Calls Try.prog 31 #[.agg #[.int .i64 n, .slice A es.length cap], .int .i64 x, .int .i64 y] w fun e w' => e = .returned (.tuple #[.int .i64 (valI n es x y), .bool (roadOkB n es x y)]) ∧ Below w.heap.size w w' := by
  have hmf : ∀ (fn : Fn) (first cap : Array Value) (w : World), (Instr.makeFunc fn first cap).run Try.prog w = .ok (.func fn first cap) w := fun _ _ _ _ => rfl
  have L0 := ArgNet.start (cap := cap) (n := n) 29 hes
  have HN : Hid (∀ u, ArgNet w u n A cap es → Calls Try.prog 81 #[.agg #[.int .i64 n, .slice A es.length cap], .int .i64 x, .int .i64 y] u fun e w' => e = .returned (.bool (roadOkB n es x y)) ∧ Below u.heap.size u w') := fun u h => roadsOk_any n x y A cap es u h.edges hl
  obtain ⟨_, _, c0, c1, s0⟩ := id L0
  cases hok : roadOkB n es x y with
  | false =>
    have HV := Lib.hid (road_not hok)
    rw [HV.out]
    rw [hok] at HN
    clear hes hok
    go_enter Try.func31, Try.ntmps31
    go_wp2_with fail
    refine (HN.out _ L0).mono ?_
    rintro e1 w1 ⟨rfl, hb1⟩
    have L1 := L0.on _ hb1
    go_wp2_with fail
    go_returns
    exact ⟨by first | rfl | simp, L1.below⟩
  | true =>
    obtain ⟨hn, hx, hy⟩ : netOkB n es = true ∧ inFour x = true ∧ inFour y = true := by
      unfold roadOkB at hok
      simp only [Bool.and_eq_true] at hok
      exact hok
    have h9 := (netOkB_iff.1 hn).2.1
    obtain ⟨hx1, hx2⟩ := inFour_iff.1 hx
    obtain ⟨hy1, hy2⟩ := inFour_iff.1 hy
    have HV : Hid (valI n es x y = sumS (fun k => baseT es x y ((basesN n es).getD k 0)) (basesN n es).length) := by unfold Hid valI; rw [if_pos hok, ← bases_val hn]; rfl
    have HBS : Hid (∀ u, ArgNet w u n A cap es → Calls Try.prog 21 #[.agg #[.int .i64 n, .slice A es.length cap]] u (GotInts u (natI (basesN n es)))) := fun u h => basesOf_any n A cap es u h.edges hl
    have hlen := basesN_len n es
    have HSUM : Hid (∀ (u : World) (B : Option Addr) (g8 d8 g9 b9 d9 g10 b10 d10 : Nat), (0 < (basesN n es).length → ∃ g, B = some ⟨g, 0, none⟩) → ListAt w u n A cap es g8 B d8 (natI (basesN n es)) g9 b9 d9 (pwI x es.length) g10 b10 d10 (pwI y es.length) → Calls Try.prog 84 #[.int .i64 ((natI (basesN n es)).length : Nat), .func (.func 87) #[] #[.pointer (some ⟨w.heap.size, 0, none⟩), .pointer (some ⟨g8, 0, none⟩), .pointer (some ⟨g9, 0, none⟩), .pointer (some ⟨g10, 0, none⟩)]] u fun e w' => e = .returned (.int .i64 (sumS (fun k => baseT es x y ((basesN n es).getD k 0)) (basesN n es).length)) ∧ Below u.heap.size u w') := fun u B g8 d8 g9 b9 d9 g10 b10 d10 hB h => by
      rw [natI_length]
      exact sumOverG_any 87 #[.pointer (some ⟨w.heap.size, 0, none⟩), .pointer (some ⟨g8, 0, none⟩), .pointer (some ⟨g9, 0, none⟩), .pointer (some ⟨g10, 0, none⟩)] (fun k => baseT es x y ((basesN n es).getD k 0)) _ u hlen (fun k _ => baseT_great h9 hx hy _) (fun _ _ => rfl) (fun v hv k hk => by
        obtain ⟨gB, rfl⟩ := hB (by omega)
        exact baseOne_any n x y A cap g8 gB d8 g9 b9 d9 g10 b10 d10 es k w v hn hx hy hk (h.on _ hv))
    have HX : Hid (∀ u, Calls Try.prog 83 #[.int .i64 x, .int .i64 (es.length : Nat)] u (GotInts u (pwI x es.length))) := fun u => powersF_any x _ (by omega) (by omega) h9 u
    have HY : Hid (∀ u, Calls Try.prog 83 #[.int .i64 y, .int .i64 (es.length : Nat)] u (GotInts u (pwI y es.length))) := fun u => powersF_any y _ (by omega) (by omega) h9 u
    have lx := pwI_length x es.length
    have ly := pwI_length y es.length
    have hnl := natI_length (basesN n es)
    obtain ⟨xs, hxs⟩ : ∃ xs, pwI x es.length = xs := ⟨_, rfl⟩
    obtain ⟨ys, hys⟩ : ∃ ys, pwI y es.length = ys := ⟨_, rfl⟩
    rw [hxs] at HX HSUM lx
    rw [hys] at HY HSUM ly
    have px : 0 < xs.length := by omega
    have py : 0 < ys.length := by omega
    obtain ⟨ls, hls⟩ : ∃ ls, natI (basesN n es) = ls := ⟨_, rfl⟩
    rw [hls] at HBS HSUM hnl
    rw [HV.out]
    rw [hok] at HN
    clear hes hok hn hx hy hx1 hx2 hy1 hy2 hxs hys hls HV lx ly h9 hl hlen
    generalize sumS (fun k => baseT es x y ((basesN n es).getD k 0)) (basesN n es).length = Z at *
    generalize (basesN n es).length = m at *
    go_enter Try.func31, Try.ntmps31
    go_wp2_with fail
    refine (HN.out _ L0).mono ?_
    rintro e1 w1 ⟨rfl, hb1⟩
    have D1 := L0.on _ hb1
    clear c0 c1 s0 L0 hb1 HN
    have c0 := D1.c0
    have c1 := D1.c1
    go_wp2_with fail
    refine (HBS.out _ D1).mono ?_
    rintro e2 w9 ⟨B, d8, rfl, own2, hb2⟩
    have D2 := D1.on _ hb2
    have hB : Hid (0 < m → ∃ g, B = some ⟨g, 0, none⟩) := fun h0 => by
      obtain ⟨g, hg, -, -⟩ := own_head own2 (by omega)
      exact ⟨g, hg⟩
    have S0 := InL.new (d8 := d8) D2 own2.ints 33
    clear D1 own2 hb2 HBS c0 c1 hnl
    go_upto_region 4 with fail
    obtain ⟨W3, hW3⟩ : ∃ W, W = w9.alloc (.cells #[.slice B ls.length d8] 33) := ⟨_, rfl⟩
    rw [← hW3] at S0 ⊢
    clear hW3 D2
    generalize w9.heap.size = g8 at *
    have c1 := S0.1
    have l8 := S0.2.2.2.1
    have l0 := S0.2.2.1
    have S0d := S0.drew
    go_cut [9, 10] (fun p q wx => ∃ g9 g10 : Nat, p = .pointer (some ⟨g9, 0, none⟩) ∧ q = .pointer (some ⟨g10, 0, none⟩) ∧ InL w n A cap es g8 B d8 ls wx ∧ TwoRows wx g9 xs g10 ys)
    case first =>
      go_wp2_with fail
      go_region_held3 (fun w' => w'.cell? ⟨w.heap.size, 1, none⟩ = some (.slice A es.length cap) ∧ ArgNet w w' n A cap es ∧ w.heap.size < g8 ∧ g8 < w'.heap.size ∧ w'.cell? ⟨g8, 0, none⟩ = some (.slice B ls.length d8) ∧ IntsIn w' g8 B ls) (first
        | exact S0d
        | exact S1
        | exact S2
        | (solve | (repeat' (first | assumption | refine InL.alloc ?_ _ | refine InL.drew ?_ | refine InL.set ?_ (by (try simp only [World.size_alloc, World.size_setCell, World.size_drew]); omega) _)))) (first
        | (go_simp; go_at_call 83; (with_reducible refine (HY.out _).mono ?_); rintro e2 w2 ⟨A2, c2, rfl, own2, hb2⟩; (try replace hb2 := undrew hb2); have S2 := InL.call (w := w) (n := n) (A := A) (cap := cap) (es := es) (g8 := g8) (B := B) (d8 := d8) (ls := ls) (by (repeat' (first | assumption | refine InL.alloc ?_ _))) hb2; obtain ⟨b2, rfl, ge2, lt2⟩ := pow_row own2 (by omega); have sz2 := hb2.size; (try simp only [World.size_alloc] at ge2 sz2); (first | (have FF := cel_two hb2; obtain ⟨⟨q1, q2, q3⟩, q4, q5, q6⟩ := FF) | (have FF := cel_one hb2; obtain ⟨q1, q2, q3⟩ := FF; try (have FF := cel_past hb2 p1 p2 p3; obtain ⟨q4, q5, q6⟩ := FF)) | ((try (have FF := cel_on hb2 p1 p2 p3; obtain ⟨q1, q2, q3⟩ := FF)); (try (have FF := cel_on hb2 p4 p5 p6; obtain ⟨q4, q5, q6⟩ := FF)))))
        | (go_simp; go_at_call 83; (with_reducible refine (HX.out _).mono ?_); rintro e1 w3 ⟨A1, c3, rfl, own1, hb1⟩; (try replace hb1 := undrew hb1); have S1 := InL.call (w := w) (n := n) (A := A) (cap := cap) (es := es) (g8 := g8) (B := B) (d8 := d8) (ls := ls) (by (repeat' (first | assumption | refine InL.alloc ?_ _))) hb1; obtain ⟨b1, rfl, ge1, lt1⟩ := pow_row own1 (by omega); have sz1 := hb1.size; (try simp only [World.size_alloc, World.size_drew] at ge1 sz1); (first | (have FF := cel_two hb1; obtain ⟨⟨p1, p2, p3⟩, p4, p5, p6⟩ := FF; (try simp only [World.size_alloc] at p1 p2 p3 p4 p5 p6)) | (have FF := cel_one hb1; obtain ⟨p1, p2, p3⟩ := FF; (try simp only [World.size_drew, World.size_alloc] at p1 p2 p3)) | skip)))
      all_goals
        rename_i hH
        go_wp2_with fail
        go_meet
        refine ⟨_, _, rfl, rfl, hH, b1, c3, b2, c2, ⟨?_, ?_, ?_⟩, ?_, ?_, ?_⟩
        · go_simp
        · refine (OwnI.held own1 ?_).ints
          repeat (first | rfl | refine (Below.heap_setCell _ _ _ _ (by first | omega | (simp; done) | (simp; omega))).trans ?_ | refine (alloc_block (by first | omega | (simp; done) | (simp; omega))).trans ?_ | refine (hb2.block _ (by first | omega | (simp; done) | (simp; omega))).trans ?_)
        · first | assumption | omega | (simp; done) | (simp; omega)
        · go_simp
        · refine (OwnI.held own2 ?_).ints
          repeat (first | rfl | refine (Below.heap_setCell _ _ _ _ (by first | omega | (simp; done) | (simp; omega))).trans ?_ | refine (alloc_block (by first | omega | (simp; done) | (simp; omega))).trans ?_)
        · first | assumption | omega | (simp; done) | (simp; omega)
    case rest =>
      clear S0 S0d c1 l8
      obtain ⟨g9, g10, rfl, rfl, S9, b9, d9, b10, d10, R9, R10⟩ := hcut
      have D9 : ListAt w _ n A cap es g8 B d8 ls g9 b9 d9 xs g10 b10 d10 ys := ⟨S9.2.1, ⟨S9.2.2.2.2.1, S9.2.2.2.2.2.more (Nat.le_of_lt S9.2.2.2.1), S9.2.2.2.1⟩, R9, R10⟩
      clear S9 R9 R10 HX HY
      have c0 := D9.1.c0
      have c1 := D9.1.c1
      have c8 := D9.2.1.1
      go_wp2_with fail
      refine (HSUM.out _ _ _ _ _ _ _ _ _ _ hB.out D9).mono ?_
      rintro e5 w5 ⟨rfl, hb5⟩
      have D5 := D9.on _ hb5
      go_wp2_with fail
      go_returns
      exact ⟨by first | rfl | simp, D5.1.below⟩
end Go.Proofs.Ytdacfeebidhgnaa
