/- Whether a family is one, and whether a state is in it; a family of a list: the program's. -/
import Derived.Test.YtlcgbmeneajfoaaImpl8d
import Derived.Deep.RegionHeld3
import Derived.Test.YtlcgbmeneajfoaaClass
namespace Go.Proofs.Ytlcgbmeneajfoaa
open Go.RowKit
set_option maxRecDepth 100000

set_option maxHeartbeats 1000000 in
theorem familyOf_any (T : Nat) (t : Int) (A : Option Addr) (c m : Nat) (ls : List Nat) (w : World) (hT : T ≤ 9) (hin : IntsIn w w.heap.size A (natI ls)) (hm : ls.length = m) (hl : m ≤ 1048576) (hls : ∀ x ∈ ls, x < 2 ^ T) :
    Calls Try.prog 53 #[.int .i64 t, .slice A m c] w (MadeFam w t (natI (famOf T ls))) := by
  have HL := leastOf_any T A c ls (w.alloc (.cells #[.int .i64 0, .slice none 0 0] 27)) hT ((hin.alloc (Nat.le_refl _) _).more (by simp)) (by omega) hls
  rw [hm] at HL
  have HL := Lib.hid HL
  have hb0 := (Below.refl w.heap.size w).alloc (Nat.le_refl _) (.cells #[.int .i64 0, .slice none 0 0] 27)
  have q0 : (w.alloc (.cells #[.int .i64 0, .slice none 0 0] 27)).cell? ⟨w.heap.size, 0, none⟩ = some (.int .i64 0) := by rw [World.cell?_alloc_at _ _ _ _ rfl]; rfl
  have q1 : (w.alloc (.cells #[.int .i64 0, .slice none 0 0] 27)).cell? ⟨w.heap.size, 1, none⟩ = some (.slice none 0 0) := by rw [World.cell?_alloc_at _ _ _ _ rfl]; rfl
  have r0 : (w.alloc (.cells #[.int .i64 0, .slice none 0 0] 27)).frozen? ⟨w.heap.size, 0, none⟩ = false := World.frozen?_alloc_at _ _ _ _ rfl
  have r1 : (w.alloc (.cells #[.int .i64 0, .slice none 0 0] 27)).frozen? ⟨w.heap.size, 1, none⟩ = false := World.frozen?_alloc_at _ _ _ _ rfl
  generalize natI (famOf T ls) = R at *
  clear hin hls hm
  go_enter Try.func53, Try.ntmps53
  go_wp2_with fail
  refine HL.out.mono ?_
  rintro e1 w1 ⟨A1, c1, rfl, own, hb⟩
  have d0 := (hb.cell (p := ⟨w.heap.size, 0, none⟩) (by simp)).trans q0
  have d1 := (hb.cell (p := ⟨w.heap.size, 1, none⟩) (by simp)).trans q1
  have e0 := (hb.frozen (p := ⟨w.heap.size, 0, none⟩) (by simp)).trans r0
  have e1 := (hb.frozen (p := ⟨w.heap.size, 1, none⟩) (by simp)).trans r1
  have hb2 := hb0.trans (hb.mono (by simp))
  have hge := own.ge
  simp only [World.size_alloc] at hge
  clear q0 q1 r0 r1 HL hb0 hb
  go_wp2_with fail
  refine bodyPost_ret (v := .agg #[.int .i64 t, .slice A1 R.length c1]) (by simp [results, Try.results53, go_sem, *]) rfl ?_
  refine ⟨A1, c1, rfl, OwnI.far (OwnI.far (own.more (by simp)) ?_ _) ?_ _, Below.setCell (Below.setCell hb2 (by simp) _) (by simp) _⟩
  · intro k hk; have := hge k hk; simp; omega
  · intro k hk; have := hge k hk; simp; omega

/-- A family's own box, in a world: its two cells, and what the row holds. -/
def BoxFam (w u : World) (t : Int) (A : Option Addr) (m c : Nat) (xs : List Int) : Prop := u.cell? ⟨w.heap.size, 0, none⟩ = some (.int .i64 t) ∧ u.cell? ⟨w.heap.size, 1, none⟩ = some (.slice A m c) ∧ ArgFam w u w.heap.size t A c xs
theorem BoxFam.of {w u : World} {t : Int} {A : Option Addr} {m c : Nat} {xs : List Int} (hm : xs.length = m) (h : ArgFam w u w.heap.size t A c xs) : BoxFam w u t A m c xs := ⟨h.c0, by rw [← hm]; exact h.c1, h⟩
theorem BoxFam.next {w u v : World} {t : Int} {A : Option Addr} {m c : Nat} {xs : List Int} (h : BoxFam w u t A m c xs) (hb : Below u.heap.size u v) : BoxFam w v t A m c xs :=
  ⟨(hb.cell (p := ⟨w.heap.size, 0, none⟩) h.2.2.lt).trans h.1, (hb.cell (p := ⟨w.heap.size, 1, none⟩) h.2.2.lt).trans h.2.1, h.2.2.next hb⟩
theorem BoxFam.drew {w u : World} {t : Int} {A : Option Addr} {m c : Nat} {xs : List Int} (h : BoxFam w u t A m c xs) : BoxFam w u.drew t A m c xs := h.next ((Below.refl _ _).drew)

set_option maxHeartbeats 4000000 in
theorem familyOk_any (t : Int) (A : Option Addr) (c : Nat) (xs : List Int) (w : World) (hin : IntsIn w w.heap.size A xs) (hl : xs.length ≤ 1048576) :
    Calls Try.prog 17 #[.agg #[.int .i64 t, .slice A xs.length c]] w fun e w' => e = .returned (.bool (famOkB t xs)) ∧ Below w.heap.size w w' := by
  have F0 := ArgFam.start (t := t) (c := c) 27 hin
  obtain ⟨m, hm⟩ : ∃ m, xs.length = m := ⟨_, rfl⟩
  have D0 := BoxFam.of hm F0
  rw [hm] at D0
  have HT : ∀ u, BoxFam w u t A m c xs → Calls Try.prog 46 #[.int .i64 t, .slice A m c] u fun e w' => e = .returned (.bool (listOkB t xs)) ∧ Below u.heap.size u w' := fun u h => by
    rw [← hm]; exact listThings_any t A c xs u h.2.2.ints (by unfold maxLen; omega)
  have c0 := D0.1
  have c1 := D0.2.1
  cases hL : listOkB t xs with
  | false =>
    have HV : Hid (famOkB t xs = false) := famOk_not hL
    rw [hm]
    rw [hL] at HT
    have HT := Lib.hid HT
    clear hL hin F0
    go_enter Try.func17, Try.ntmps17
    go_wp2_with fail
    refine wp_region_class (fun u => BoxFam w u t A m c xs) (by kernel_rfl) (by kernel_rfl) D0.drew ?_
    intro X hX f hf hex
    have k0 : ∀ x, (f x).cell? ⟨w.heap.size, 0, none⟩ = some (.int .i64 t) := fun x => (hf x).1
    have k1 : ∀ x, (f x).cell? ⟨w.heap.size, 1, none⟩ = some (.slice A m c) := fun x => (hf x).2.1
    repeat (go_big_quiet_step (first | (go_at_call 46; with_reducible exact class_of hex (HT.out _ (hf _)) (fun _ hb => (hf _).next hb))))
    refine wpQuiet_nil ?_
    rintro _ ⟨x, rfl⟩
    have L4 := hf x
    go_wp2_with fail
    go_returns
    exact ⟨retB HV.out.symm, L4.2.2.below⟩
  | true =>
    rw [hm]
    rw [hL] at HT
    have HT := Lib.hid HT
    obtain ⟨T, ls, rfl, hT, rfl, hls⟩ := listOk_iff.1 hL
    have HV := Lib.hid (famOk_list (ls := ls) hT)
    have hm2 : ls.length = m := by rw [← hm, natI_length]
    have HLE : Hid (∀ u, BoxFam w u (T : Nat) A m c (natI ls) → Calls Try.prog 48 #[.slice A m c] u (GotInts u (natI (famOf T ls)))) := fun u h => by
      rw [← hm2]; exact leastOf_any T A c ls u (by omega) h.2.2.ints (by omega) hls
    have HEQ : Hid (∀ u A2 c2, BoxFam w u (T : Nat) A m c (natI ls) → IntsIn u u.heap.size A2 (natI (famOf T ls)) → Calls Try.prog 47 #[.slice A m c, .slice A2 (natI (famOf T ls)).length c2] u fun e w' => e = .returned (.bool (decide (natI ls = natI (famOf T ls)))) ∧ Below u.heap.size u w') := fun u A2 c2 h hi => by
      rw [← hm]; exact equal_any A A2 c c2 (natI ls) (natI (famOf T ls)) u h.2.2.ints hi (by rw [hm]; unfold maxLen; omega)
    rw [HV.out]
    have hmid := hm
    generalize natI (famOf T ls) = R at *
    generalize natI ls = zs at *
    clear HV hL hls hm hm2 hin F0 hmid
    generalize hd : decide (zs = R) = v at *
    clear hd
    have D1 := D0.drew
    go_enter Try.func17, Try.ntmps17
    go_wp2_with fail
    go_region_held3 (fun w' => w'.cell? ⟨w.heap.size, 0, none⟩ = some (.int .i64 (T : Nat)) ∧ w'.cell? ⟨w.heap.size, 1, none⟩ = some (.slice A m c) ∧ ArgFam w w' w.heap.size (T : Nat) A c zs) (first | exact D1 | exact D2 | exact D3 | exact D4) (first
      | (go_simp; go_at_call 47; (with_reducible refine (HEQ.out _ _ _ D3 own3.ints).mono ?_); rintro e4 w4 ⟨rfl, hb4⟩; have D4 := D3.next hb4)
      | (go_simp; go_at_call 48; (with_reducible refine (HLE.out _ D2).mono ?_); rintro e3 w3 ⟨A3, k3, rfl, own3, hb3⟩; have D3 := D2.next hb3)
      | (go_simp; go_at_call 46; (with_reducible refine (HT.out _ D1).mono ?_); rintro e2 w2 ⟨rfl, hb2⟩; have D2 := D1.next hb2))
    all_goals
      go_wp2_with fail
      go_returns
      exact ⟨rfl, D4.2.2.below⟩
end Go.Proofs.Ytlcgbmeneajfoaa
