/- Families of the reference: the family of the states that work. -/
import Derived.Test.YtmdmmebekicpkaaVal8
import Derived.Test.YtmdmmebekicpkaaTruth
import Derived.Test.YtmdmmebekicpkaaFam
import Derived.Test.YtmdmmebekicpkaaFamL
import Derived.Test.YtmdmmebekicpkaaDrawR
import Derived.Deep.AppendLies
namespace Go.Proofs.Ytmdmmebekicpkaa
open Go.RowKit
set_option maxRecDepth 100000

/-- What l8Of's loop lays hold of: the answer's cell, the family in the making, the row of truths. -/
structure OutAt (w u : World) (g P : Nat) (A : Nat → Bool) (T : Nat) (OA : Option Addr) (oc : Nat) (ns : List Nat) : Prop where
  q0 : u.cell? ⟨w.heap.size, 0, none⟩ = some (.int .i64 0)
  q1 : u.cell? ⟨w.heap.size, 1, none⟩ = some (.slice none 0 0)
  r0 : u.frozen? ⟨w.heap.size, 0, none⟩ = false
  r1 : u.frozen? ⟨w.heap.size, 1, none⟩ = false
  c0 : u.cell? ⟨w.heap.size + 1, 0, none⟩ = some (.int .i64 T)
  c1 : u.cell? ⟨w.heap.size + 1, 1, none⟩ = some (.slice OA ns.length oc)
  f0 : u.frozen? ⟨w.heap.size + 1, 0, none⟩ = false
  f1 : u.frozen? ⟨w.heap.size + 1, 1, none⟩ = false
  own : OwnI u (w.heap.size + 2) (.slice OA ns.length oc) (natI ns)
  tr : TruthsIn u g P A
  gl : g < w.heap.size
  lt : w.heap.size + 1 < u.heap.size
  below : Below w.heap.size w u
theorem OutAt.step {w u u' : World} {g P : Nat} {A : Nat → Bool} {T : Nat} {OA : Option Addr} {oc : Nat} {ns : List Nat} (h : OutAt w u g P A T OA oc ns) (hb : Below u.heap.size u u') : OutAt w u' g P A T OA oc ns :=
  have l0 : w.heap.size < u.heap.size := by have := h.lt; omega
  ⟨(hb.cell l0).trans h.q0, (hb.cell l0).trans h.q1, (hb.frozen l0).trans h.r0, (hb.frozen l0).trans h.r1, (hb.cell h.lt).trans h.c0, (hb.cell h.lt).trans h.c1, (hb.frozen h.lt).trans h.f0, (hb.frozen h.lt).trans h.f1,
    h.own.below hb h.own.lt, h.tr.next hb, h.gl, Nat.lt_of_lt_of_le h.lt hb.size, h.below.trans (hb.mono h.below.size)⟩

theorem OutAt.push {w u u5 : World} {g P : Nat} {A : Nat → Bool} {T : Nat} {OA : Option Addr} {oc gg cc s : Nat} {ns : List Nat} (h : OutAt w u g P A T OA oc ns) (hb : Below (w.heap.size + 2) u u5)
    (own5 : OwnI u5 (w.heap.size + 2) (.slice (some ⟨gg, 0, none⟩) (ns.length + 1) cc) (natI (ns ++ [s]))) :
    OutAt w (u5.setCell ⟨w.heap.size + 1, 1, none⟩ (.slice (some ⟨gg, 0, none⟩) (ns.length + 1) cc)) g P A T (some ⟨gg, 0, none⟩) cc (ns ++ [s]) := by
  have hl : (ns ++ [s]).length = ns.length + 1 := by simp
  have hs := hb.size
  have hlt := h.lt
  have hgl := h.gl
  have hc1 := (hb.cell (p := ⟨w.heap.size + 1, 1, none⟩) (by simp)).trans h.c1
  have l5 : w.heap.size + 1 < u5.heap.size := by omega
  have l6 : g < u5.heap.size := by omega
  refine ⟨?_, ?_, ?_, ?_, ?_, ?_, ?_, ?_, ?_, ?_, h.gl, by simpa [World.setCell] using l5, ?_⟩
  · rw [World.cell?_setCell_far _ _ _ _ (by simp)]; exact (hb.cell (by simp)).trans h.q0
  · rw [World.cell?_setCell_far _ _ _ _ (by simp)]; exact (hb.cell (by simp)).trans h.q1
  · rw [World.frozen?_setCell]; exact (hb.frozen (by simp)).trans h.r0
  · rw [World.frozen?_setCell]; exact (hb.frozen (by simp)).trans h.r1
  · rw [World.cell?_setCell_other _ _ _ _ (by simp)]; exact (hb.cell (by simp)).trans h.c0
  · rw [hl]; exact World.cell?_setCell_same _ _ _ hc1
  · rw [World.frozen?_setCell]; exact (hb.frozen (by simp)).trans h.f0
  · rw [World.frozen?_setCell]; exact (hb.frozen (by simp)).trans h.f1
  · rw [hl]; exact OwnI.far own5 (fun k hk => by have := own5.ge k hk; simp; omega) _
  · refine ⟨by simpa [World.setCell] using l6, fun k hk => ?_⟩
    rw [World.cell?_setCell_far _ _ _ _ (by simp; omega)]; exact (hb.cell (by simp; omega)).trans (h.tr.2 k hk)
  · exact (h.below.trans (hb.mono (by omega))).setCell (by simp) _

set_option maxHeartbeats 8000000 in
theorem l8Of_any (T g P c : Nat) (A : Nat → Bool) (w : World) (hT : T ≤ 6) (hA : UpS T A) (hP : 2 ^ T = P) (hW : TruthsIn w g P A) :
    Calls Try.prog 61 #[.int .i64 T, .slice (some ⟨g, 0, none⟩) P c] w (MadeFam w T (natI (leastL T A))) := by
  have hP64 : P ≤ 64 := by rw [← hP]; exact pow_64 hT
  have HALL : Hid (leastK T A P = leastL T A) := by rw [← hP]; rfl
  have HTAKE : Hid (∀ s, s < P → (A s && !famB (leastK T A s) s) = leastB T A s) := fun s hs => leastK_take (by omega) hA (by rw [hP]; exact hs)
  have HLEAST : Hid (∀ s k, leastB T A s = true → k < T → s.testBit k = true → A (s - 2 ^ k) = false) := fun s k h hk hb => (least_iff.1 h).2 k hk hb
  have HLEN : Hid (∀ s, s ≤ P → (leastK T A s).length ≤ 64) := fun s hs => Nat.le_trans (leastK_len T A s) (by omega)
  have HLT : Hid (∀ s, s ≤ P → ∀ x ∈ leastK T A s, x ≤ 8192) := fun s hs x hx => by have := (mem_leastK.1 hx).1; omega
  obtain ⟨L, hL⟩ : ∃ L, leastL T A = L := ⟨_, rfl⟩
  rw [hL] at HALL ⊢
  clear hA hP hL
  obtain ⟨i0, hi0, hz0, hz1, hz2⟩ := info_parts int_info
  have BB : Below w.heap.size w ((w.alloc (.cells #[.int .i64 0, .slice none 0 0] 27)).alloc (.cells #[.int .i64 T, .slice none 0 0] 27)) := ((Below.refl _ _).alloc (by simp) _).alloc (by simp) _
  have O0 : OutAt w ((w.alloc (.cells #[.int .i64 0, .slice none 0 0] 27)).alloc (.cells #[.int .i64 T, .slice none 0 0] 27)) g P A T none 0 [] :=
    ⟨by rw [World.cell?_alloc_past _ _ _ (by simp), World.cell?_alloc_at _ _ _ _ (by simp)]; rfl, by rw [World.cell?_alloc_past _ _ _ (by simp), World.cell?_alloc_at _ _ _ _ (by simp)]; rfl,
      by rw [World.frozen?_alloc_past _ _ _ (by simp), World.frozen?_alloc_at _ _ _ _ (by simp)], by rw [World.frozen?_alloc_past _ _ _ (by simp), World.frozen?_alloc_at _ _ _ _ (by simp)],
      by rw [World.cell?_alloc_at _ _ _ _ (by simp)]; rfl, by rw [World.cell?_alloc_at _ _ _ _ (by simp)]; rfl, by rw [World.frozen?_alloc_at _ _ _ _ (by simp)], by rw [World.frozen?_alloc_at _ _ _ _ (by simp)],
      OwnI.nil _ _, hW.step BB hW.1, hW.1, by simp, BB⟩
  clear hW BB
  go_enter Try.func61, Try.ntmps61
  go_wp2_with fail
  generalize ((w.alloc (.cells #[.int .i64 0, .slice none 0 0] 27)).alloc (.cells #[.int .i64 T, .slice none 0 0] 27)) = W0 at *
  go_loopw [6] (fun t wr => ∃ (s : Nat) (OA : Option Addr) (oc : Nat), s ≤ P ∧ t = .int .i64 (s : Nat) ∧ OutAt w wr g P A T OA oc (leastK T A s)) (fun t _ => P - (intOf t).toNat)
  case atStart => exact ⟨0, none, 0, by omega, rfl, O0⟩
  case round =>
    clear O0
    obtain ⟨s, OA, oc, hs, rfl, O1⟩ := hrel
    by_cases hlt : s < P
    · have hx := O1.tr.2 s hlt
      have htk := HTAKE.out s hlt
      have is1 : (s : Int) < (P : Int) := by omega
      cases hv : A s with
      | false =>
        rw [hv] at hx htk
        have hm : leastK T A (s + 1) = leastK T A s := leastK_miss htk.symm
        have HM := Lib.hid hm
        clear hm htk hv
        go_wp2_with fail
        go_roundw
        case rel => exact ⟨s + 1, OA, oc, by omega, by go_num, by rw [HM.out]; exact O1⟩
        case measure => simp [intOf]; omega
      | true =>
        rw [hv] at hx htk
        have hcall : Calls Try.prog 72 #[.agg #[.int .i64 T, .slice OA (leastK T A s).length oc], .int .i64 s] wr fun e w' => e = .returned (.bool (famB (leastK T A s) s)) ∧ Below wr.heap.size wr w' :=
          l8In_any T OA oc (leastK T A s) s wr (O1.own.ints) (by have := HLEN.out s hs; omega) (HLT.out s hs) (by omega)
        have hlen := HLEN.out s hs
        have HMISS : Hid (leastB T A s = false → leastK T A (s + 1) = leastK T A s) := fun h => leastK_miss h
        have HHIT : Hid (leastB T A s = true → leastK T A (s + 1) = leastK T A s ++ [s]) := fun h => leastK_hit h
        obtain ⟨ns2, hns2⟩ : ∃ ns, leastK T A (s + 1) = ns := ⟨_, rfl⟩
        have HN2 := Lib.hid hns2
        rw [hns2] at HMISS HHIT
        generalize leastK T A s = ns at *
        obtain ⟨q0, q1, r0, r1, c0, c1, f0, f1, own, tr, gl, lt, bel⟩ := id O1
        have HL1 := HLEAST.out s
        generalize leastB T A s = lb at *
        cases hf : famB ns s with
        | true =>
          rw [hf] at hcall htk
          obtain rfl : lb = false := htk.symm
          have HM := Lib.hid (HMISS.out rfl)
          clear hf htk HMISS HHIT HL1 hv hns2
          go_wp2_with fail
          refine hcall.mono ?_
          clear hcall
          rintro e1 w1 ⟨rfl, hb1⟩
          have O2 := O1.step hb1
          clear O1 hb1 q0 q1 r0 r1 c0 c1 f0 f1 own tr lt bel
          go_wp2_with fail
          go_roundw
          case rel => exact ⟨s + 1, OA, oc, by omega, by go_num, by rw [HN2.out, HM.out]; exact O2⟩
          case measure => simp [intOf]; omega
        | false =>
          rw [hf] at hcall htk
          obtain rfl : lb = true := htk.symm
          have HM := Lib.hid (HHIT.out rfl)
          have HL2 : Hid (∀ k, k < T → s.testBit k = true → A (s - 2 ^ k) = false) := fun k h1 h2 => HL1 k rfl h1 h2
          clear hf htk HMISS HHIT HL1 hv hns2
          go_wp2_with fail
          refine hcall.mono ?_
          clear hcall
          rintro e1 w1 ⟨rfl, hb1⟩
          have O2 := O1.step hb1
          clear O1 hb1 q0 q1 r0 r1 c0 c1 f0 f1 own tr lt bel hx
          go_wp2_with fail
          go_loopw [7, 8] (fun l t wr => ∃ k : Nat, k ≤ T ∧ t = .int .i64 (k : Nat) ∧ l = .bool true ∧ wr = w1) (fun _ t _ => T - (intOf t).toNat)
          case atStart => exact ⟨0, by omega, rfl, rfl, rfl⟩
          case round =>
            obtain ⟨k, hk, rfl, rfl, rfl⟩ := hrel
            by_cases hkt : k < T
            · obtain ⟨p, hp, p1, p2, hp3, hp4⟩ := pow_named12 (show k ≤ 13 by omega)
              have HP3 := Lib.hid hp3
              have HP4 := Lib.hid hp4
              clear hp3 hp4
              have hbit := bit_tmod s k
              cases hb : s.testBit k with
              | true =>
                rw [hb, if_pos rfl] at hbit
                have hps : p ≤ s := hp ▸ Nat.le_of_not_lt fun hlt => by rw [Nat.testBit_lt_two_pow hlt] at hb; cases hb
                have hfalse := HL2.out k hkt hb
                rw [hp] at hfalse
                have hy := O2.tr.2 (s - p) (by omega)
                rw [hfalse] at hy
                have wsub : IntKind.i64.wrap ((s : Int) - (p : Int)) = ((s - p : Nat) : Int) := by rw [IntWalk.i64_in _ (by omega)]; omega
                have iy : ((s - p : Nat) : Int) < (P : Int) := by omega
                generalize s - p = d at *
                clear hp hb
                have hp3 := HP3.out
                have hp4 := HP4.out
                go_wp2_with fail
                go_roundw
                case rel => exact ⟨k + 1, by omega, by go_num, by simp⟩
                case measure => simp [intOf]; omega
              | false =>
                rw [hb, if_neg (by simp)] at hbit
                clear hp hb
                have hp3 := HP3.out
                have hp4 := HP4.out
                go_wp2_with fail
                go_roundw
                case rel => exact ⟨k + 1, by omega, by go_num, by simp⟩
                case measure => simp [intOf]; omega
            · obtain rfl : k = T := by omega
              obtain ⟨q0, q1, r0, r1, c0, c1, f0, f1, own, tr, gl, lt, bel⟩ := id O2
              have HO := Lib.hid own
              have HT2 := Lib.hid tr
              clear own tr
              go_wp2_with (at_builtin; (refine wpList_append_lies _ rfl (.tmp 52) (.tmp 54) 23 rfl (w.heap.size + 2) 3 i0 _ 1 8 Try.underlying23 hi0 hz0 hz1 hz2 rfl (by omega) (.slice OA ns.length oc) ns.length (ints (natI ns)) rfl (World.ownsRow.alloc (by have h := HO.out; unfold OwnI at h; rw [natI_length] at h; exact h) _) ⟨wr.heap.size, 0, none⟩ 1 1 [.int .i64 s] rfl rfl (World.news_of_block (cs := #[.int .i64 s]) (t := 3) (fr := (0, 0)) (heap_alloc_new _ _)) (by simp [Value.oneCell']) (by omega) (by simp [maxLen]; omega) (by omega) (by simp; omega) _ rfl ?_); intro gg cc w5 hown5 hgrow hat hlt5; have hbw : Below (w.heap.size + 2) wr w5 := (Below.refl _ _).grown (grown_box hgrow) (by omega) (fun j hj => HO.out.ge j hj); have d0 := (hbw.cell (p := ⟨w.heap.size + 1, 0, none⟩) (by simp)).trans c0; have d1 := (hbw.cell (p := ⟨w.heap.size + 1, 1, none⟩) (by simp)).trans c1; have e1 := (hbw.frozen (p := ⟨w.heap.size + 1, 1, none⟩) (by simp)).trans f1)
              have O5 : OwnI w5 (w.heap.size + 2) (.slice (some ⟨gg, 0, none⟩) (ns.length + 1) cc) (natI (ns ++ [s])) := by
                unfold OwnI; rw [natI_length, List.length_append, natI, List.map_append, ints_append]; exact hown5
              have O6 := O2.push hbw O5
              go_roundw
              case rel => exact ⟨s + 1, some ⟨gg, 0, none⟩, cc, by omega, by go_num, by rw [HN2.out, HM.out]; exact O6⟩
              case measure => simp [intOf]; omega
    · obtain rfl : s = P := by omega
      rw [HALL.out] at O1
      obtain ⟨q0, q1, r0, r1, c0, c1, f0, f1, own, tr, gl, lt, bel⟩ := O1
      clear tr HTAKE HLEAST HLEN HLT
      go_wp2_with fail
      refine bodyPost_ret (v := .agg #[.int .i64 T, .slice OA L.length oc]) (by simp [results, Try.results61, go_sem, *]) rfl ?_
      refine ⟨OA, oc, by rw [natI_length], ?_, ?_⟩
      · rw [natI_length]
        exact OwnI.far (OwnI.far (own.more (by omega)) (fun k hk => by have := own.ge k hk; simp; omega) _) (fun k hk => by have := own.ge k hk; simp; omega) _
      · exact (bel.setCell (by simp) _).setCell (by simp) _
end Go.Proofs.Ytmdmmebekicpkaa

/- Families of the reference: both, and either. -/
namespace Go.Proofs.Ytmdmmebekicpkaa
open Go.RowKit
set_option maxRecDepth 100000

/-- Two families in boxes of the call's, and the answer's cell. -/
structure TwoAt (w u : World) (t : Int) (A : Option Addr) (c : Nat) (xs : List Int) (s : Int) (B : Option Addr) (d : Nat) (ys : List Int) : Prop where
  f : ArgFam w u w.heap.size t A c xs
  g : ArgFam w u (w.heap.size + 1) s B d ys
  q0 : u.cell? ⟨w.heap.size + 2, 0, none⟩ = some (.int .i64 0)
  q1 : u.cell? ⟨w.heap.size + 2, 1, none⟩ = some (.slice none 0 0)
  r0 : u.frozen? ⟨w.heap.size + 2, 0, none⟩ = false
  r1 : u.frozen? ⟨w.heap.size + 2, 1, none⟩ = false
  lt : w.heap.size + 2 < u.heap.size
theorem TwoAt.step {w u u' : World} {t : Int} {A : Option Addr} {c : Nat} {xs : List Int} {s : Int} {B : Option Addr} {d : Nat} {ys : List Int} (h : TwoAt w u t A c xs s B d ys) (hb : Below (w.heap.size + 3) u u') : TwoAt w u' t A c xs s B d ys :=
  ⟨h.f.step hb (by omega), h.g.step hb (by omega), (hb.cell (by simp)).trans h.q0, (hb.cell (by simp)).trans h.q1, (hb.frozen (by simp)).trans h.r0, (hb.frozen (by simp)).trans h.r1, Nat.lt_of_lt_of_le h.lt hb.size⟩
theorem TwoAt.next {w u u' : World} {t : Int} {A : Option Addr} {c : Nat} {xs : List Int} {s : Int} {B : Option Addr} {d : Nat} {ys : List Int} (h : TwoAt w u t A c xs s B d ys) (hb : Below u.heap.size u u') : TwoAt w u' t A c xs s B d ys :=
  h.step (hb.mono h.lt)
theorem TwoAt.start (w : World) (t : Int) (A : Option Addr) (c : Nat) (xs : List Int) (s : Int) (B : Option Addr) (d : Nat) (ys : List Int) (T : TypeId) (hx : IntsIn w w.heap.size A xs) (hy : IntsIn w w.heap.size B ys) :
    TwoAt w (((w.alloc (.cells #[.int .i64 t, .slice A xs.length c] T)).alloc (.cells #[.int .i64 s, .slice B ys.length d] T)).alloc (.cells #[.int .i64 0, .slice none 0 0] T)) t A c xs s B d ys := by
  have b1 := (Below.refl (w.heap.size + 1) (w.alloc (.cells #[.int .i64 t, .slice A xs.length c] T))).alloc (by simp) (.cells #[.int .i64 s, .slice B ys.length d] T)
  have b2 := (Below.refl (w.heap.size + 2) ((w.alloc (.cells #[.int .i64 t, .slice A xs.length c] T)).alloc (.cells #[.int .i64 s, .slice B ys.length d] T))).alloc (by simp) (.cells #[.int .i64 0, .slice none 0 0] T)
  have b0 : Below w.heap.size w ((w.alloc (.cells #[.int .i64 t, .slice A xs.length c] T)).alloc (.cells #[.int .i64 s, .slice B ys.length d] T)) := ((Below.refl _ _).alloc (by simp) _).alloc (by simp) _
  have G : ArgFam w ((w.alloc (.cells #[.int .i64 t, .slice A xs.length c] T)).alloc (.cells #[.int .i64 s, .slice B ys.length d] T)) (w.heap.size + 1) s B d ys :=
    ⟨by rw [World.cell?_alloc_at _ _ _ _ (by simp)]; rfl, by rw [World.cell?_alloc_at _ _ _ _ (by simp)]; rfl, hy.below b0 (Nat.le_refl _), b0, by omega, by simp⟩
  exact ⟨((ArgFam.start (t := t) (c := c) T hx).step b1 (by omega)).step b2 (by omega), G.step b2 (by omega), by rw [World.cell?_alloc_at _ _ _ _ (by simp)]; rfl, by rw [World.cell?_alloc_at _ _ _ _ (by simp)]; rfl,
    World.frozen?_alloc_at _ _ _ _ (by simp), World.frozen?_alloc_at _ _ _ _ (by simp), by simp⟩
def soFar (V : Nat → Bool) (k i : Nat) : Bool := decide (i < k) && V i
theorem soFar_put (V : Nat → Bool) (k : Nat) : putB (soFar V k) k (V k) = soFar V (k + 1) := by
  funext i
  unfold putB soFar
  by_cases h : i = k
  · subst h; simp
  · by_cases h2 : i < k
    · simp [h, h2, show i < k + 1 by omega]
    · simp [h, h2, show ¬ i < k + 1 by omega]

set_option maxHeartbeats 8000000 in
theorem specBoth_any (t : Int) (A : Option Addr) (c : Nat) (xs : List Int) (s : Int) (B : Option Addr) (d : Nat) (ys : List Int) (w : World) (hx : IntsIn w w.heap.size A xs) (hy : IntsIn w w.heap.size B ys) (hl : xs.length ≤ maxLen) (hl2 : ys.length ≤ maxLen) :
    Calls Try.prog 25 #[.agg #[.int .i64 t, .slice A xs.length c], .agg #[.int .i64 s, .slice B ys.length d]] w (GotFam w (twoT t xs s ys) (andL t xs s ys) (twoOk t xs s ys)) := by
  have D0 := TwoAt.start w t A c xs s B d ys 27 hx hy
  unfold twoT andL
  cases hF : famOkB t xs with
  | false =>
    have HF := Lib.hid hF
    have h2 : twoOk t xs s ys = false := by simp [twoOk, hF]
    rw [h2, if_neg (by simp), if_neg (by simp)]
    clear hF h2
    obtain ⟨⟨f0, f1, -, fb, -, -⟩, ⟨g0, g1, -, -, -, -⟩, q0, q1, r0, r1, lt⟩ := id D0
    clear hx hy
    go_enter Try.func25, Try.ntmps25
    go_wp2_with fail
    refine (specFamilyOk_any _ _ _ _ _ D0.f.ints hl).mono ?_
    rintro e1 w1 ⟨rfl, hb1⟩
    rw [HF.out]
    have D1 := D0.next hb1
    clear f0 f1 fb g0 g1 q0 q1 r0 r1 lt D0 hb1
    obtain ⟨⟨f0, f1, -, fb, -, -⟩, ⟨g0, g1, -, -, -, -⟩, q0, q1, r0, r1, lt⟩ := id D1
    go_wp2_with fail
    refine bodyPost_ret (v := .tuple #[.agg #[.int .i64 0, .slice none 0 0], .bool false]) (by simp [results, Try.results25, go_sem, *]) rfl ?_
    exact ⟨none, 0, rfl, OwnI.nil _ _, (fb.setCell (p := ⟨w.heap.size + 2, 0, none⟩) (by simp) _).setCell (p := ⟨w.heap.size + 2, 1, none⟩) (by simp) _⟩
  | true =>
    have HF := Lib.hid hF
    cases hG : famOkB s ys with
    | false =>
      have HG := Lib.hid hG
      have h2 : twoOk t xs s ys = false := by simp [twoOk, hG]
      rw [h2, if_neg (by simp), if_neg (by simp)]
      clear hF hG h2
      obtain ⟨⟨f0, f1, -, fb, -, -⟩, ⟨g0, g1, -, -, -, -⟩, q0, q1, r0, r1, lt⟩ := id D0
      clear hx hy
      go_enter Try.func25, Try.ntmps25
      go_wp2_with fail
      refine (specFamilyOk_any _ _ _ _ _ D0.f.ints hl).mono ?_
      rintro e1 w1 ⟨rfl, hb1⟩
      rw [HF.out]
      have D1 := D0.next hb1
      clear f0 f1 fb g0 g1 q0 q1 r0 r1 lt D0 hb1
      obtain ⟨⟨f0, f1, -, fb, -, -⟩, ⟨g0, g1, -, -, -, -⟩, q0, q1, r0, r1, lt⟩ := id D1
      go_wp2_with fail
      refine (specFamilyOk_any _ _ _ _ _ D1.g.ints hl2).mono ?_
      rintro e2 w2 ⟨rfl, hb2⟩
      rw [HG.out]
      have D2 := D1.next hb2
      clear f0 f1 fb g0 g1 q0 q1 r0 r1 lt D1 hb2
      obtain ⟨⟨f0, f1, -, fb, -, -⟩, ⟨g0, g1, -, -, -, -⟩, q0, q1, r0, r1, lt⟩ := id D2
      go_wp2_with fail
      refine bodyPost_ret (v := .tuple #[.agg #[.int .i64 0, .slice none 0 0], .bool false]) (by simp [results, Try.results25, go_sem, *]) rfl ?_
      exact ⟨none, 0, rfl, OwnI.nil _ _, (fb.setCell (p := ⟨w.heap.size + 2, 0, none⟩) (by simp) _).setCell (p := ⟨w.heap.size + 2, 1, none⟩) (by simp) _⟩
    | true =>
      have HG := Lib.hid hG
      by_cases hts : t = s
      · obtain ⟨T, ns, ms, rfl, rfl, hT, rfl, rfl, hn, hm⟩ := twoOk_iff.1 (show twoOk t xs s ys = true by unfold twoOk; rw [hF, hG, decide_eq_true hts]; rfl)
        rw [two_of hT hn hm, if_pos rfl, if_pos rfl, natOf_natI, natOf_natI, show ((T : Nat) : Int).toNat = T from rfl]
        obtain ⟨P, hP, p1, p2, hp3, hp4⟩ := pow_named12 (show T ≤ 13 by omega)
        have hP64 : P ≤ 64 := by rw [← hP]; exact pow_64 hT
        have hU : UpS T (fun i => famB ns i && famB ms i) := up_and (famB_up T ns) (famB_up T ms)
        have HO : Hid (∀ (u : World) (g : Nat) (W : Nat → Bool), (∀ i, i < P → W i = (famB ns i && famB ms i)) → TruthsIn u g P W → Calls Try.prog 61 #[.int .i64 T, .slice (some ⟨g, 0, none⟩) P P] u (MadeFam u T (natI (famAnd T ns ms)))) := fun u g W hW ht =>
          l8Of_any T g P P (fun i => famB ns i && famB ms i) u hT hU hP ⟨ht.1, fun k hk => by have h := ht.2 k hk; rw [hW k hk] at h; exact h⟩
        have hlen1 := hn.len
        have hlen2 := hm.len
        rw [hP] at hlen1 hlen2
        have HX : Hid (∀ u i, IntsIn u u.heap.size A (natI ns) → i < P → Calls Try.prog 72 #[.agg #[.int .i64 T, .slice A (natI ns).length c], .int .i64 (i : Nat)] u fun e w' => e = .returned (.bool (famB ns i)) ∧ Below u.heap.size u w') := fun u i hu hi => by
          rw [natI_length]; exact l8In_any T A c ns i u hu (by omega) (fun x hx => by have := hn.lt x hx; omega) (by omega)
        have HY : Hid (∀ u i, IntsIn u u.heap.size B (natI ms) → i < P → Calls Try.prog 72 #[.agg #[.int .i64 T, .slice B (natI ms).length d], .int .i64 (i : Nat)] u fun e w' => e = .returned (.bool (famB ms i)) ∧ Below u.heap.size u w') := fun u i hu hi => by
          rw [natI_length]; exact l8In_any T B d ms i u hu (by omega) (fun x hx => by have := hm.lt x hx; omega) (by omega)
        have HL : Hid ((famAnd T ns ms).length ≤ 64) := by have h := (famAnd_ok T (by omega) ns ms).len; rw [hP] at h; rw [Hid]; omega
        clear hn hm hU hP hlen1 hlen2 hx hy hF hG
        generalize famAnd T ns ms = R at *
        generalize hnx : natI ns = nx at *
        generalize hmx : natI ms = mx at *
        clear hnx hmx
        obtain ⟨V, hV⟩ : ∃ V : Nat → Bool, (fun i => famB ns i && famB ms i) = V := ⟨_, rfl⟩
        have HV : Hid (∀ i, (famB ns i && famB ms i) = V i) := fun i => by rw [← hV]
        clear hV
        generalize famB ns = FN at *
        generalize famB ms = FM at *
        obtain ⟨i0, hi0, hz0, hz1, hz2⟩ := info_parts truth_info
        obtain ⟨⟨f0, f1, -, fb, -, -⟩, ⟨g0, g1, -, -, -, -⟩, q0, q1, r0, r1, lt⟩ := id D0
        go_enter Try.func25, Try.ntmps25
        go_wp2_with fail
        refine (specFamilyOk_any _ _ _ _ _ D0.f.ints hl).mono ?_
        rintro e1 w1 ⟨rfl, hb1⟩
        rw [HF.out]
        have D1 := D0.next hb1
        clear f0 f1 fb g0 g1 q0 q1 r0 r1 lt D0 hb1
        obtain ⟨⟨f0, f1, -, fb, -, -⟩, ⟨g0, g1, -, -, -, -⟩, q0, q1, r0, r1, lt⟩ := id D1
        go_wp2_with fail
        refine (specFamilyOk_any _ _ _ _ _ D1.g.ints hl2).mono ?_
        rintro e2 w2 ⟨rfl, hb2⟩
        rw [HG.out]
        have D2 := D1.next hb2
        clear f0 f1 fb g0 g1 q0 q1 r0 r1 lt D1 hb2
        obtain ⟨⟨f0, f1, -, fb, -, -⟩, ⟨g0, g1, -, -, -, -⟩, q0, q1, r0, r1, lt⟩ := id D2
        go_wp2_with (at_make; refine wpList_make_full _ rfl _ _ 74 rfl (w.heap.size + 3) 4 i0 _ 1 Try.underlying74 hi0 hz0 hz1 .i64 .i64 P P P rfl rfl rfl rfl (by rw [hz2]; omega) (by simp [maxLen]; omega) (by omega) ?_; intro w3 hown3 hg3)
        have hb3 : Below (w.heap.size + 3) w2 w3 := (Below.refl _ _).grown hg3 (by omega) (by simp)
        have O3 : OwnT w3 (w.heap.size + 3) w2.heap.size P P (soFar V 0) := by
          unfold OwnT; rw [truths_congr (B := fun _ => false) (fun i _ => by simp [soFar]), ← madeCells_truths]; exact hown3
        have D3 := D2.step hb3
        have gge : w.heap.size + 3 ≤ w2.heap.size := by omega
        clear f0 f1 fb g0 g1 q0 q1 r0 r1 lt D2 hown3 hg3 hb3 hi0 hz0 hz1 hz2
        generalize w2.heap.size = gb at *
        go_wp2_with fail
        go_loopw [7] (fun t wr => ∃ k : Nat, k ≤ P ∧ t = .int .i64 (k : Nat) ∧ OwnT wr (w.heap.size + 3) gb P P (soFar V k) ∧ TwoAt w wr T A c nx T B d mx) (fun t _ => P - (intOf t).toNat)
        case atStart => exact ⟨0, by omega, rfl, O3, D3⟩
        case round =>
          clear O3 D3
          obtain ⟨k, hk, rfl, O, D⟩ := hrel
          obtain ⟨⟨f0, f1, -, fb, -, -⟩, ⟨g0, g1, -, -, -, -⟩, q0, q1, r0, r1, lt⟩ := id D
          by_cases hlt : k < P
          · have ik : (k : Int) < (P : Int) := by omega
            have hc1 := HX.out wr k D.f.ints hlt
            have hv := HV.out k
            cases ha : FN k with
            | false =>
              rw [ha] at hc1 hv
              have hv : V k = false := by rw [← hv]; rfl
              go_wp2_with fail
              refine hc1.mono ?_
              clear hc1
              rintro e4 w4 ⟨rfl, hb4⟩
              have D4 := D.next hb4
              have O4 := O.next hb4
              have O5 := O4.store k (V k)
              rw [soFar_put] at O5
              obtain ⟨y1, y2⟩ := O4.slot hlt
              have D5 := D4.step ((Below.refl (w.heap.size + 3) w4).setCell (p := ⟨gb, k, none⟩) gge (.bool (V k)))
              rw [hv] at O5 D5
              clear O O4 D D4 hb4 f0 f1 fb g0 g1 q0 q1 r0 r1 lt hv ha
              go_wp2_with fail
              go_roundw
              case rel => exact ⟨k + 1, by omega, by go_num, O5, D5⟩
              case measure => simp [intOf]; omega
            | true =>
              rw [ha] at hc1 hv
              have hv : V k = FM k := by rw [← hv]; simp
              go_wp2_with fail
              refine hc1.mono ?_
              clear hc1
              rintro e4 w4 ⟨rfl, hb4⟩
              have D4 := D.next hb4
              have O4 := O.next hb4
              clear O D hb4 f0 f1 fb g0 g1 q0 q1 r0 r1 lt ha
              obtain ⟨⟨f0, f1, -, fb, -, -⟩, ⟨g0, g1, -, -, -, -⟩, q0, q1, r0, r1, lt⟩ := id D4
              have hc2 := HY.out w4 k D4.g.ints hlt
              rw [← hv] at hc2
              go_wp2_with fail
              refine hc2.mono ?_
              clear hc2
              rintro e5 w5 ⟨rfl, hb5⟩
              have D5 := D4.next hb5
              have O5 := O4.next hb5
              have O6 := O5.store k (V k)
              rw [soFar_put] at O6
              obtain ⟨y1, y2⟩ := O5.slot hlt
              have D6 := D5.step ((Below.refl (w.heap.size + 3) w5).setCell (p := ⟨gb, k, none⟩) gge (.bool (V k)))
              clear O4 O5 D4 D5 hb5 f0 f1 fb g0 g1 q0 q1 r0 r1 lt hv
              generalize V k = vk at *
              go_wp2_with fail
              go_roundw
              case rel => exact ⟨k + 1, by omega, by go_num, O6, D6⟩
              case measure => simp [intOf]; omega
          · obtain rfl : k = P := by omega
            have hcall := HO.out wr gb (soFar V k) (fun i hi => by rw [HV.out i]; simp [soFar, hi]) O.truths
            clear HO HX HY hlt hk
            go_wp2_with fail
            refine hcall.mono ?_
            clear hcall
            rintro e4 w4 ⟨A4, k4, rfl, own4, hb4⟩
            have D4 := D.next hb4
            have hsz := hb4.size
            clear D O hb4 f0 f1 fb g0 g1 q0 q1 r0 r1
            obtain ⟨⟨f0, f1, -, fb, -, -⟩, ⟨g0, g1, -, -, -, -⟩, q0, q1, r0, r1, lt4⟩ := id D4
            go_wp2_with fail
            refine bodyPost_ret (v := .tuple #[.agg #[.int .i64 T, .slice A4 (natI R).length k4], .bool true]) (by simp [results, Try.results25, go_sem, *]) rfl ?_
            refine ⟨A4, k4, rfl, ?_, (fb.setCell (p := ⟨w.heap.size + 2, 0, none⟩) (by simp) _).setCell (p := ⟨w.heap.size + 2, 1, none⟩) (by simp) _⟩
            have hge := own4.ge
            exact OwnI.far (OwnI.far (own4.more (by omega)) (fun j hj => by have := hge j hj; simp; omega) _) (fun j hj => by have := hge j hj; simp; omega) _
      · have h2 : twoOk t xs s ys = false := by simp [twoOk, hts]
        have hne : (t == s) = false := by rw [beq_eq_false_iff_ne]; exact hts
        rw [h2, if_neg (by simp), if_neg (by simp)]
        clear hF hG h2
        obtain ⟨⟨f0, f1, -, fb, -, -⟩, ⟨g0, g1, -, -, -, -⟩, q0, q1, r0, r1, lt⟩ := id D0
        clear hx hy
        go_enter Try.func25, Try.ntmps25
        go_wp2_with fail
        refine (specFamilyOk_any _ _ _ _ _ D0.f.ints hl).mono ?_
        rintro e1 w1 ⟨rfl, hb1⟩
        rw [HF.out]
        have D1 := D0.next hb1
        clear f0 f1 fb g0 g1 q0 q1 r0 r1 lt D0 hb1
        obtain ⟨⟨f0, f1, -, fb, -, -⟩, ⟨g0, g1, -, -, -, -⟩, q0, q1, r0, r1, lt⟩ := id D1
        go_wp2_with fail
        refine (specFamilyOk_any _ _ _ _ _ D1.g.ints hl2).mono ?_
        rintro e2 w2 ⟨rfl, hb2⟩
        rw [HG.out]
        have D2 := D1.next hb2
        clear f0 f1 fb g0 g1 q0 q1 r0 r1 lt D1 hb2
        obtain ⟨⟨f0, f1, -, fb, -, -⟩, ⟨g0, g1, -, -, -, -⟩, q0, q1, r0, r1, lt⟩ := id D2
        go_wp2_with fail
        refine bodyPost_ret (v := .tuple #[.agg #[.int .i64 0, .slice none 0 0], .bool false]) (by simp [results, Try.results25, go_sem, *]) rfl ?_
        exact ⟨none, 0, rfl, OwnI.nil _ _, (fb.setCell (p := ⟨w.heap.size + 2, 0, none⟩) (by simp) _).setCell (p := ⟨w.heap.size + 2, 1, none⟩) (by simp) _⟩

set_option maxHeartbeats 8000000 in
theorem specEither_any (t : Int) (A : Option Addr) (c : Nat) (xs : List Int) (s : Int) (B : Option Addr) (d : Nat) (ys : List Int) (w : World) (hx : IntsIn w w.heap.size A xs) (hy : IntsIn w w.heap.size B ys) (hl : xs.length ≤ maxLen) (hl2 : ys.length ≤ maxLen) :
    Calls Try.prog 29 #[.agg #[.int .i64 t, .slice A xs.length c], .agg #[.int .i64 s, .slice B ys.length d]] w (GotFam w (twoT t xs s ys) (orL t xs s ys) (twoOk t xs s ys)) := by
  have D0 := TwoAt.start w t A c xs s B d ys 27 hx hy
  unfold twoT orL
  cases hF : famOkB t xs with
  | false =>
    have HF := Lib.hid hF
    have h2 : twoOk t xs s ys = false := by simp [twoOk, hF]
    rw [h2, if_neg (by simp), if_neg (by simp)]
    clear hF h2
    obtain ⟨⟨f0, f1, -, fb, -, -⟩, ⟨g0, g1, -, -, -, -⟩, q0, q1, r0, r1, lt⟩ := id D0
    clear hx hy
    go_enter Try.func29, Try.ntmps29
    go_wp2_with fail
    refine (specFamilyOk_any _ _ _ _ _ D0.f.ints hl).mono ?_
    rintro e1 w1 ⟨rfl, hb1⟩
    rw [HF.out]
    have D1 := D0.next hb1
    clear f0 f1 fb g0 g1 q0 q1 r0 r1 lt D0 hb1
    obtain ⟨⟨f0, f1, -, fb, -, -⟩, ⟨g0, g1, -, -, -, -⟩, q0, q1, r0, r1, lt⟩ := id D1
    go_wp2_with fail
    refine bodyPost_ret (v := .tuple #[.agg #[.int .i64 0, .slice none 0 0], .bool false]) (by simp [results, Try.results29, go_sem, *]) rfl ?_
    exact ⟨none, 0, rfl, OwnI.nil _ _, (fb.setCell (p := ⟨w.heap.size + 2, 0, none⟩) (by simp) _).setCell (p := ⟨w.heap.size + 2, 1, none⟩) (by simp) _⟩
  | true =>
    have HF := Lib.hid hF
    cases hG : famOkB s ys with
    | false =>
      have HG := Lib.hid hG
      have h2 : twoOk t xs s ys = false := by simp [twoOk, hG]
      rw [h2, if_neg (by simp), if_neg (by simp)]
      clear hF hG h2
      obtain ⟨⟨f0, f1, -, fb, -, -⟩, ⟨g0, g1, -, -, -, -⟩, q0, q1, r0, r1, lt⟩ := id D0
      clear hx hy
      go_enter Try.func29, Try.ntmps29
      go_wp2_with fail
      refine (specFamilyOk_any _ _ _ _ _ D0.f.ints hl).mono ?_
      rintro e1 w1 ⟨rfl, hb1⟩
      rw [HF.out]
      have D1 := D0.next hb1
      clear f0 f1 fb g0 g1 q0 q1 r0 r1 lt D0 hb1
      obtain ⟨⟨f0, f1, -, fb, -, -⟩, ⟨g0, g1, -, -, -, -⟩, q0, q1, r0, r1, lt⟩ := id D1
      go_wp2_with fail
      refine (specFamilyOk_any _ _ _ _ _ D1.g.ints hl2).mono ?_
      rintro e2 w2 ⟨rfl, hb2⟩
      rw [HG.out]
      have D2 := D1.next hb2
      clear f0 f1 fb g0 g1 q0 q1 r0 r1 lt D1 hb2
      obtain ⟨⟨f0, f1, -, fb, -, -⟩, ⟨g0, g1, -, -, -, -⟩, q0, q1, r0, r1, lt⟩ := id D2
      go_wp2_with fail
      refine bodyPost_ret (v := .tuple #[.agg #[.int .i64 0, .slice none 0 0], .bool false]) (by simp [results, Try.results29, go_sem, *]) rfl ?_
      exact ⟨none, 0, rfl, OwnI.nil _ _, (fb.setCell (p := ⟨w.heap.size + 2, 0, none⟩) (by simp) _).setCell (p := ⟨w.heap.size + 2, 1, none⟩) (by simp) _⟩
    | true =>
      have HG := Lib.hid hG
      by_cases hts : t = s
      · obtain ⟨T, ns, ms, rfl, rfl, hT, rfl, rfl, hn, hm⟩ := twoOk_iff.1 (show twoOk t xs s ys = true by unfold twoOk; rw [hF, hG, decide_eq_true hts]; rfl)
        rw [two_of hT hn hm, if_pos rfl, if_pos rfl, natOf_natI, natOf_natI, show ((T : Nat) : Int).toNat = T from rfl]
        obtain ⟨P, hP, p1, p2, hp3, hp4⟩ := pow_named12 (show T ≤ 13 by omega)
        have hP64 : P ≤ 64 := by rw [← hP]; exact pow_64 hT
        have hU : UpS T (fun i => famB ns i || famB ms i) := up_or (famB_up T ns) (famB_up T ms)
        have HO : Hid (∀ (u : World) (g : Nat) (W : Nat → Bool), (∀ i, i < P → W i = (famB ns i || famB ms i)) → TruthsIn u g P W → Calls Try.prog 61 #[.int .i64 T, .slice (some ⟨g, 0, none⟩) P P] u (MadeFam u T (natI (famOr T ns ms)))) := fun u g W hW ht =>
          l8Of_any T g P P (fun i => famB ns i || famB ms i) u hT hU hP ⟨ht.1, fun k hk => by have h := ht.2 k hk; rw [hW k hk] at h; exact h⟩
        have hlen1 := hn.len
        have hlen2 := hm.len
        rw [hP] at hlen1 hlen2
        have HX : Hid (∀ u i, IntsIn u u.heap.size A (natI ns) → i < P → Calls Try.prog 72 #[.agg #[.int .i64 T, .slice A (natI ns).length c], .int .i64 (i : Nat)] u fun e w' => e = .returned (.bool (famB ns i)) ∧ Below u.heap.size u w') := fun u i hu hi => by
          rw [natI_length]; exact l8In_any T A c ns i u hu (by omega) (fun x hx => by have := hn.lt x hx; omega) (by omega)
        have HY : Hid (∀ u i, IntsIn u u.heap.size B (natI ms) → i < P → Calls Try.prog 72 #[.agg #[.int .i64 T, .slice B (natI ms).length d], .int .i64 (i : Nat)] u fun e w' => e = .returned (.bool (famB ms i)) ∧ Below u.heap.size u w') := fun u i hu hi => by
          rw [natI_length]; exact l8In_any T B d ms i u hu (by omega) (fun x hx => by have := hm.lt x hx; omega) (by omega)
        have HL : Hid ((famOr T ns ms).length ≤ 64) := by have h := (famOr_ok T (by omega) ns ms).len; rw [hP] at h; rw [Hid]; omega
        clear hn hm hU hP hlen1 hlen2 hx hy hF hG
        generalize famOr T ns ms = R at *
        generalize hnx : natI ns = nx at *
        generalize hmx : natI ms = mx at *
        clear hnx hmx
        obtain ⟨V, hV⟩ : ∃ V : Nat → Bool, (fun i => famB ns i || famB ms i) = V := ⟨_, rfl⟩
        have HV : Hid (∀ i, (famB ns i || famB ms i) = V i) := fun i => by rw [← hV]
        clear hV
        generalize famB ns = FN at *
        generalize famB ms = FM at *
        obtain ⟨i0, hi0, hz0, hz1, hz2⟩ := info_parts truth_info
        obtain ⟨⟨f0, f1, -, fb, -, -⟩, ⟨g0, g1, -, -, -, -⟩, q0, q1, r0, r1, lt⟩ := id D0
        go_enter Try.func29, Try.ntmps29
        go_wp2_with fail
        refine (specFamilyOk_any _ _ _ _ _ D0.f.ints hl).mono ?_
        rintro e1 w1 ⟨rfl, hb1⟩
        rw [HF.out]
        have D1 := D0.next hb1
        clear f0 f1 fb g0 g1 q0 q1 r0 r1 lt D0 hb1
        obtain ⟨⟨f0, f1, -, fb, -, -⟩, ⟨g0, g1, -, -, -, -⟩, q0, q1, r0, r1, lt⟩ := id D1
        go_wp2_with fail
        refine (specFamilyOk_any _ _ _ _ _ D1.g.ints hl2).mono ?_
        rintro e2 w2 ⟨rfl, hb2⟩
        rw [HG.out]
        have D2 := D1.next hb2
        clear f0 f1 fb g0 g1 q0 q1 r0 r1 lt D1 hb2
        obtain ⟨⟨f0, f1, -, fb, -, -⟩, ⟨g0, g1, -, -, -, -⟩, q0, q1, r0, r1, lt⟩ := id D2
        go_wp2_with (at_make; refine wpList_make_full _ rfl _ _ 74 rfl (w.heap.size + 3) 4 i0 _ 1 Try.underlying74 hi0 hz0 hz1 .i64 .i64 P P P rfl rfl rfl rfl (by rw [hz2]; omega) (by simp [maxLen]; omega) (by omega) ?_; intro w3 hown3 hg3)
        have hb3 : Below (w.heap.size + 3) w2 w3 := (Below.refl _ _).grown hg3 (by omega) (by simp)
        have O3 : OwnT w3 (w.heap.size + 3) w2.heap.size P P (soFar V 0) := by
          unfold OwnT; rw [truths_congr (B := fun _ => false) (fun i _ => by simp [soFar]), ← madeCells_truths]; exact hown3
        have D3 := D2.step hb3
        have gge : w.heap.size + 3 ≤ w2.heap.size := by omega
        clear f0 f1 fb g0 g1 q0 q1 r0 r1 lt D2 hown3 hg3 hb3 hi0 hz0 hz1 hz2
        generalize w2.heap.size = gb at *
        go_wp2_with fail
        go_loopw [7] (fun t wr => ∃ k : Nat, k ≤ P ∧ t = .int .i64 (k : Nat) ∧ OwnT wr (w.heap.size + 3) gb P P (soFar V k) ∧ TwoAt w wr T A c nx T B d mx) (fun t _ => P - (intOf t).toNat)
        case atStart => exact ⟨0, by omega, rfl, O3, D3⟩
        case round =>
          clear O3 D3
          obtain ⟨k, hk, rfl, O, D⟩ := hrel
          obtain ⟨⟨f0, f1, -, fb, -, -⟩, ⟨g0, g1, -, -, -, -⟩, q0, q1, r0, r1, lt⟩ := id D
          by_cases hlt : k < P
          · have ik : (k : Int) < (P : Int) := by omega
            have hc1 := HX.out wr k D.f.ints hlt
            have hv := HV.out k
            cases ha : FN k with
            | true =>
              rw [ha] at hc1 hv
              have hv : V k = true := by rw [← hv]; rfl
              go_wp2_with fail
              refine hc1.mono ?_
              clear hc1
              rintro e4 w4 ⟨rfl, hb4⟩
              have D4 := D.next hb4
              have O4 := O.next hb4
              have O5 := O4.store k (V k)
              rw [soFar_put] at O5
              obtain ⟨y1, y2⟩ := O4.slot hlt
              have D5 := D4.step ((Below.refl (w.heap.size + 3) w4).setCell (p := ⟨gb, k, none⟩) gge (.bool (V k)))
              rw [hv] at O5 D5
              clear O O4 D D4 hb4 f0 f1 fb g0 g1 q0 q1 r0 r1 lt hv ha
              go_wp2_with fail
              go_roundw
              case rel => exact ⟨k + 1, by omega, by go_num, O5, D5⟩
              case measure => simp [intOf]; omega
            | false =>
              rw [ha] at hc1 hv
              have hv : V k = FM k := by rw [← hv]; simp
              go_wp2_with fail
              refine hc1.mono ?_
              clear hc1
              rintro e4 w4 ⟨rfl, hb4⟩
              have D4 := D.next hb4
              have O4 := O.next hb4
              clear O D hb4 f0 f1 fb g0 g1 q0 q1 r0 r1 lt ha
              obtain ⟨⟨f0, f1, -, fb, -, -⟩, ⟨g0, g1, -, -, -, -⟩, q0, q1, r0, r1, lt⟩ := id D4
              have hc2 := HY.out w4 k D4.g.ints hlt
              rw [← hv] at hc2
              go_wp2_with fail
              refine hc2.mono ?_
              clear hc2
              rintro e5 w5 ⟨rfl, hb5⟩
              have D5 := D4.next hb5
              have O5 := O4.next hb5
              have O6 := O5.store k (V k)
              rw [soFar_put] at O6
              obtain ⟨y1, y2⟩ := O5.slot hlt
              have D6 := D5.step ((Below.refl (w.heap.size + 3) w5).setCell (p := ⟨gb, k, none⟩) gge (.bool (V k)))
              clear O4 O5 D4 D5 hb5 f0 f1 fb g0 g1 q0 q1 r0 r1 lt hv
              generalize V k = vk at *
              go_wp2_with fail
              go_roundw
              case rel => exact ⟨k + 1, by omega, by go_num, O6, D6⟩
              case measure => simp [intOf]; omega
          · obtain rfl : k = P := by omega
            have hcall := HO.out wr gb (soFar V k) (fun i hi => by rw [HV.out i]; simp [soFar, hi]) O.truths
            clear HO HX HY hlt hk
            go_wp2_with fail
            refine hcall.mono ?_
            clear hcall
            rintro e4 w4 ⟨A4, k4, rfl, own4, hb4⟩
            have D4 := D.next hb4
            have hsz := hb4.size
            clear D O hb4 f0 f1 fb g0 g1 q0 q1 r0 r1
            obtain ⟨⟨f0, f1, -, fb, -, -⟩, ⟨g0, g1, -, -, -, -⟩, q0, q1, r0, r1, lt4⟩ := id D4
            go_wp2_with fail
            refine bodyPost_ret (v := .tuple #[.agg #[.int .i64 T, .slice A4 (natI R).length k4], .bool true]) (by simp [results, Try.results29, go_sem, *]) rfl ?_
            refine ⟨A4, k4, rfl, ?_, (fb.setCell (p := ⟨w.heap.size + 2, 0, none⟩) (by simp) _).setCell (p := ⟨w.heap.size + 2, 1, none⟩) (by simp) _⟩
            have hge := own4.ge
            exact OwnI.far (OwnI.far (own4.more (by omega)) (fun j hj => by have := hge j hj; simp; omega) _) (fun j hj => by have := hge j hj; simp; omega) _
      · have h2 : twoOk t xs s ys = false := by simp [twoOk, hts]
        have hne : (t == s) = false := by rw [beq_eq_false_iff_ne]; exact hts
        rw [h2, if_neg (by simp), if_neg (by simp)]
        clear hF hG h2
        obtain ⟨⟨f0, f1, -, fb, -, -⟩, ⟨g0, g1, -, -, -, -⟩, q0, q1, r0, r1, lt⟩ := id D0
        clear hx hy
        go_enter Try.func29, Try.ntmps29
        go_wp2_with fail
        refine (specFamilyOk_any _ _ _ _ _ D0.f.ints hl).mono ?_
        rintro e1 w1 ⟨rfl, hb1⟩
        rw [HF.out]
        have D1 := D0.next hb1
        clear f0 f1 fb g0 g1 q0 q1 r0 r1 lt D0 hb1
        obtain ⟨⟨f0, f1, -, fb, -, -⟩, ⟨g0, g1, -, -, -, -⟩, q0, q1, r0, r1, lt⟩ := id D1
        go_wp2_with fail
        refine (specFamilyOk_any _ _ _ _ _ D1.g.ints hl2).mono ?_
        rintro e2 w2 ⟨rfl, hb2⟩
        rw [HG.out]
        have D2 := D1.next hb2
        clear f0 f1 fb g0 g1 q0 q1 r0 r1 lt D1 hb2
        obtain ⟨⟨f0, f1, -, fb, -, -⟩, ⟨g0, g1, -, -, -, -⟩, q0, q1, r0, r1, lt⟩ := id D2
        go_wp2_with fail
        refine bodyPost_ret (v := .tuple #[.agg #[.int .i64 0, .slice none 0 0], .bool false]) (by simp [results, Try.results29, go_sem, *]) rfl ?_
        exact ⟨none, 0, rfl, OwnI.nil _ _, (fb.setCell (p := ⟨w.heap.size + 2, 0, none⟩) (by simp) _).setCell (p := ⟨w.heap.size + 2, 1, none⟩) (by simp) _⟩
end Go.Proofs.Ytmdmmebekicpkaa

/- Families of the reference: the blocker. -/
namespace Go.Proofs.Ytmdmmebekicpkaa
open Go.RowKit
set_option maxRecDepth 100000

/-- One family in a box of the call's, and the answer's cell. -/
structure OneAt (w u : World) (t : Int) (A : Option Addr) (c : Nat) (xs : List Int) : Prop where
  f : ArgFam w u w.heap.size t A c xs
  q0 : u.cell? ⟨w.heap.size + 1, 0, none⟩ = some (.int .i64 0)
  q1 : u.cell? ⟨w.heap.size + 1, 1, none⟩ = some (.slice none 0 0)
  r0 : u.frozen? ⟨w.heap.size + 1, 0, none⟩ = false
  r1 : u.frozen? ⟨w.heap.size + 1, 1, none⟩ = false
  lt : w.heap.size + 1 < u.heap.size
theorem OneAt.step {w u u' : World} {t : Int} {A : Option Addr} {c : Nat} {xs : List Int} (h : OneAt w u t A c xs) (hb : Below (w.heap.size + 2) u u') : OneAt w u' t A c xs :=
  ⟨h.f.step hb (by omega), (hb.cell (by simp)).trans h.q0, (hb.cell (by simp)).trans h.q1, (hb.frozen (by simp)).trans h.r0, (hb.frozen (by simp)).trans h.r1, Nat.lt_of_lt_of_le h.lt hb.size⟩
theorem OneAt.next {w u u' : World} {t : Int} {A : Option Addr} {c : Nat} {xs : List Int} (h : OneAt w u t A c xs) (hb : Below u.heap.size u u') : OneAt w u' t A c xs :=
  h.step (hb.mono h.lt)
theorem OneAt.start (w : World) (t : Int) (A : Option Addr) (c : Nat) (xs : List Int) (T : TypeId) (hx : IntsIn w w.heap.size A xs) :
    OneAt w ((w.alloc (.cells #[.int .i64 t, .slice A xs.length c] T)).alloc (.cells #[.int .i64 0, .slice none 0 0] T)) t A c xs := by
  have b1 := (Below.refl (w.heap.size + 1) (w.alloc (.cells #[.int .i64 t, .slice A xs.length c] T))).alloc (by simp) (.cells #[.int .i64 0, .slice none 0 0] T)
  exact ⟨(ArgFam.start (t := t) (c := c) T hx).step b1 (by omega), by rw [World.cell?_alloc_at _ _ _ _ (by simp)]; rfl, by rw [World.cell?_alloc_at _ _ _ _ (by simp)]; rfl,
    World.frozen?_alloc_at _ _ _ _ (by simp), World.frozen?_alloc_at _ _ _ _ (by simp), by simp⟩

end Go.Proofs.Ytmdmmebekicpkaa

/- Families of the reference: the family that is made of a list. -/
namespace Go.Proofs.Ytmdmmebekicpkaa
open Go.RowKit
set_option maxRecDepth 100000

/-- A list's row, and the answer's cell. -/
structure ListAt (w u : World) (A : Option Addr) (xs : List Int) : Prop where
  row : IntsIn u w.heap.size A xs
  below : Below w.heap.size w u
  q0 : u.cell? ⟨w.heap.size, 0, none⟩ = some (.int .i64 0)
  q1 : u.cell? ⟨w.heap.size, 1, none⟩ = some (.slice none 0 0)
  r0 : u.frozen? ⟨w.heap.size, 0, none⟩ = false
  r1 : u.frozen? ⟨w.heap.size, 1, none⟩ = false
  lt : w.heap.size < u.heap.size
theorem ListAt.step {w u u' : World} {A : Option Addr} {xs : List Int} (h : ListAt w u A xs) (hb : Below (w.heap.size + 1) u u') : ListAt w u' A xs :=
  ⟨h.row.below hb (by omega), h.below.trans (hb.mono (by omega)), (hb.cell (by simp)).trans h.q0, (hb.cell (by simp)).trans h.q1, (hb.frozen (by simp)).trans h.r0, (hb.frozen (by simp)).trans h.r1, Nat.lt_of_lt_of_le h.lt hb.size⟩
theorem ListAt.next {w u u' : World} {A : Option Addr} {xs : List Int} (h : ListAt w u A xs) (hb : Below u.heap.size u u') : ListAt w u' A xs :=
  h.step (hb.mono h.lt)
theorem ListAt.start (w : World) (A : Option Addr) (xs : List Int) (T : TypeId) (hx : IntsIn w w.heap.size A xs) : ListAt w (w.alloc (.cells #[.int .i64 0, .slice none 0 0] T)) A xs :=
  ⟨hx.alloc (Nat.le_refl _) _, (Below.refl _ _).alloc (Nat.le_refl _) _, by rw [World.cell?_alloc_at _ _ _ _ rfl]; rfl, by rw [World.cell?_alloc_at _ _ _ _ rfl]; rfl,
    World.frozen?_alloc_at _ _ _ _ rfl, World.frozen?_alloc_at _ _ _ _ rfl, by simp⟩

set_option maxHeartbeats 8000000 in
theorem specFrom_any (t : Int) (A : Option Addr) (c : Nat) (xs : List Int) (w : World) (hx : IntsIn w w.heap.size A xs) (hl : xs.length ≤ maxLen) :
    Calls Try.prog 17 #[.int .i64 t, .slice A xs.length c] w (GotFam w (fromT t xs) (fromL t xs) (fromOk t xs)) := by
  have D0 := ListAt.start w A xs 27 hx
  have hcall := l1In_any t 0 6
  cases hT : (decide (0 ≤ t) && decide (t ≤ 6)) with
  | false =>
    have hno : fromOk t xs = false := by unfold fromOk; rw [hT]; rfl
    unfold fromT fromL
    rw [hno, if_neg (by simp), if_neg (by simp)]
    rw [hT] at hcall
    obtain ⟨-, fb, q0, q1, r0, r1, lt⟩ := id D0
    clear hx hT hno
    go_enter Try.func17, Try.ntmps17
    go_wp2_with fail
    refine (hcall _).mono ?_
    rintro e1 w1 ⟨rfl, rfl⟩
    go_wp2_with fail
    refine bodyPost_ret (v := .tuple #[.agg #[.int .i64 0, .slice none 0 0], .bool false]) (by simp [results, Try.results17, go_sem, *]) rfl ?_
    exact ⟨none, 0, rfl, OwnI.nil _ _, fb⟩
  | true =>
    by_cases h64 : xs.length ≤ 64
    · obtain ⟨T, rfl⟩ : ∃ T : Nat, t = T := ⟨t.toNat, by simp at hT; omega⟩
      have hT6 : T ≤ 6 := by simp at hT; omega
      obtain ⟨P, hP, p1, p2, hp3, hp4⟩ := pow_named12 (show T ≤ 13 by omega)
      have hP64 : P ≤ 64 := by rw [← hP]; exact pow_64 hT6
      have wP1 : IntKind.i64.wrap ((P : Int) - 1) = (P : Int) - 1 := IntWalk.i64_in _ (by omega)
      have hok : fromOk (T : Nat) xs = xs.all fun x => decide (0 ≤ x) && decide (x ≤ (P : Int) - 1) := by
        unfold fromOk; rw [hT, decide_eq_true h64, show ((T : Nat) : Int).toNat = T from rfl, hP]; rfl
      obtain ⟨Q, hQ⟩ : ∃ Q, GotFam w (fromT T xs) (fromL T xs) (fromOk T xs) = Q := ⟨_, rfl⟩
      rw [hQ]
      have HBAD : Hid ((xs.all fun x => decide (0 ≤ x) && decide (x ≤ (P : Int) - 1)) = false → ∀ e w', GotFam w 0 [] false e w' → Q e w') := fun h e w' hg => by
        rw [← hQ]; unfold fromT fromL; rw [hok, h]; exact hg
      have HGOOD : Hid ((xs.all fun x => decide (0 ≤ x) && decide (x ≤ (P : Int) - 1)) = true → ∀ e w', GotFam w T (natI (famOf T (natOf xs))) true e w' → Q e w') := fun h e w' hg => by
        rw [← hQ]; unfold fromT fromL; rw [hok, h, if_pos rfl, if_pos rfl]; exact hg
      have HO : Hid (∀ (u : World) (g : Nat) (W : Nat → Bool), (∀ i, i < P → W i = famB (natOf xs) i) → TruthsIn u g P W → Calls Try.prog 61 #[.int .i64 T, .slice (some ⟨g, 0, none⟩) P P] u (MadeFam u T (natI (famOf T (natOf xs))))) := fun u g W hW ht =>
        l8Of_any T g P P (famB (natOf xs)) u hT6 (famB_up T _) hP ⟨ht.1, fun k hk => by have h := ht.2 k hk; rw [hW k hk] at h; exact h⟩
      have HL : Hid ((famOf T (natOf xs)).length ≤ 64) := by have h := (famOf_ok T (by omega) (natOf xs)).len; rw [hP] at h; rw [Hid]; omega
      have hgl : (natOf xs).length = xs.length := by simp [natOf]
      have HG : Hid (∀ k x, xs[k]? = some x → (natOf xs).getD k 0 = x.toNat) := fun k x h => by
        rw [List.getD_eq_getElem?_getD, natOf, List.getElem?_map, h]; rfl
      generalize natOf xs = G at *
      generalize famOf T G = R at *
      obtain ⟨n, hn⟩ : ∃ n, xs.length = n := ⟨_, rfl⟩
      rw [hn] at h64 hl hgl ⊢
      have HN := Lib.hid hn
      have HGL := Lib.hid hgl
      have HALL : Hid (xs.take n = xs) := by rw [Hid, ← hn, List.take_length]
      have HGALL : Hid (G.take n = G) := by rw [Hid, ← hgl, List.take_length]
      have HSTEP : Hid (∀ k x, xs[k]? = some x → xs.take (k + 1) = xs.take k ++ [x]) := fun k x h => by rw [List.take_add_one, h]; rfl
      have n65 : ¬ (64 : Int) < (n : Int) := by omega
      rw [hT] at hcall
      clear hx hT hok hQ hP hgl hn
      obtain ⟨i0, hi0, hz0, hz1, hz2⟩ := info_parts truth_info
      obtain ⟨-, fb, q0, q1, r0, r1, lt⟩ := id D0
      go_enter Try.func17, Try.ntmps17
      go_wp2_with fail
      refine (hcall _).mono ?_
      clear hcall
      rintro e1 w1 ⟨rfl, rfl⟩
      go_wp2_with (at_make; refine wpList_make_full _ rfl _ _ 74 rfl (w.heap.size + 1) 4 i0 _ 1 Try.underlying74 hi0 hz0 hz1 .i64 .i64 P P P rfl rfl rfl rfl (by rw [hz2]; omega) (by simp [maxLen]; omega) (by omega) ?_; intro w3 hown3 hg3)
      have b0 := D0.below
      generalize hw1 : w.alloc (.cells #[.int .i64 0, .slice none 0 0] 27) = w1 at *
      have hb3 : Below (w.heap.size + 1) w1 w3 := (Below.refl _ _).grown hg3 (by omega) (by simp)
      have O3 : OwnT w3 (w.heap.size + 1) w1.heap.size P P (famB (G.take 0)) := by
        unfold OwnT; rw [truths_congr (B := fun _ => false) (fun i _ => by simp [famB]), ← madeCells_truths]; exact hown3
      have D3 := D0.step hb3
      have hsz1 : w1.heap.size = w.heap.size + 1 := by rw [← hw1]; simp
      rw [hsz1] at O3
      clear fb q0 q1 r0 r1 lt D0 hown3 hg3 hb3 hi0 hz0 hz1 hz2 b0 hw1 hsz1
      go_wp2_with fail
      go_loopw [7] (fun t wr => ∃ k : Nat, k ≤ n ∧ t = .int .i64 (k : Nat) ∧ Hid (((xs.take k).all fun x => decide (0 ≤ x) && decide (x ≤ (P : Int) - 1)) = true) ∧ OwnT wr (w.heap.size + 1) (w.heap.size + 1) P P (famB (G.take k)) ∧ ListAt w wr A xs) (fun t _ => n - (intOf t).toNat)
      case atStart => exact ⟨0, by omega, rfl, by simp [Hid], O3, D3⟩
      case round =>
        clear O3 D3
        obtain ⟨k, hk, rfl, hgood, O, D⟩ := hrel
        obtain ⟨row, fb, q0, q1, r0, r1, lt⟩ := id D
        by_cases hkn : k < n
        · have jk : (k : Int) < (n : Int) := by omega
          obtain ⟨x, hxk⟩ : ∃ x, xs[k]? = some x := ⟨_, List.getElem?_eq_getElem (show k < xs.length by rw [HN.out]; exact hkn)⟩
          obtain ⟨b, off, rfl, -, hc⟩ := row k x hxk
          have hcall := l1In_any x 0 ((P : Int) - 1)
          cases hgx : (decide (0 ≤ x) && decide (x ≤ (P : Int) - 1)) with
          | false =>
            rw [hgx] at hcall
            have HB := Lib.hid (HBAD.out (by rw [List.all_eq_false]; exact ⟨x, List.mem_of_getElem? hxk, by simp [hgx]⟩))
            clear hgx hxk O D HO row
            go_wp2_with fail
            refine (hcall _).mono ?_
            clear hcall
            rintro e4 w4 ⟨rfl, rfl⟩
            go_wp2_with fail
            refine bodyPost_ret (v := .tuple #[.agg #[.int .i64 0, .slice none 0 0], .bool false]) (by simp [results, Try.results17, go_sem, *]) rfl ?_
            refine HB.out _ _ ⟨none, 0, rfl, OwnI.nil _ _, (fb.setCell (p := ⟨w.heap.size, 0, none⟩) (by simp) _).setCell (p := ⟨w.heap.size, 1, none⟩) (by simp) _⟩
          | true =>
            rw [hgx] at hcall
            obtain ⟨X, rfl⟩ : ∃ X : Nat, x = X := ⟨x.toNat, by simp at hgx; omega⟩
            have hX : X ≤ 8192 := by simp at hgx; omega
            have hgx2 : G.getD k 0 = X := HG.out k X hxk
            have HGX : Hid (((xs.take (k + 1)).all fun x => decide (0 ≤ x) && decide (x ≤ (P : Int) - 1)) = true) := by
              have h := HSTEP.out k X hxk
              rw [Hid, h, List.all_append, hgood.out]
              simpa using hgx
            have HS : Hid (∀ s, famB (G.take (k + 1)) s = (famB (G.take k) s || decide (X &&& s = X))) := fun s => by
              have h := famB_take_succ (s := s) (show k < G.length by rw [HGL.out]; exact hkn)
              rw [hgx2] at h; exact h
            have O4 : OwnT wr (w.heap.size + 1) (w.heap.size + 1) P P (mixB (famB (G.take k)) (famB (G.take (k + 1))) 0) := by rw [mixB_zero]; exact O
            have D4 := D
            have HXK := Lib.hid hxk
            clear hgx hxk O D row hgood hgx2 fb
            generalize famB (G.take k) = F at *
            obtain ⟨F2, hF2⟩ : ∃ F2, famB (G.take (k + 1)) = F2 := ⟨_, rfl⟩
            have HF2 := Lib.hid hF2
            rw [hF2] at O4 HS
            clear hF2
            go_wp2_with fail
            refine (hcall _).mono ?_
            clear hcall
            rintro e4 w4 ⟨rfl, rfl⟩
            clear q0 q1 r0 r1 lt hc
            go_wp2_with fail
            go_loopw [8] (fun t wr => ∃ s : Nat, s ≤ P ∧ t = .int .i64 (s : Nat) ∧ OwnT wr (w.heap.size + 1) (w.heap.size + 1) P P (mixB F F2 s) ∧ ListAt w wr (some ⟨b, off, none⟩) xs) (fun t _ => P - (intOf t).toNat)
            case atStart => exact ⟨0, by omega, rfl, O4, D4⟩
            case round =>
              clear O4 D4
              obtain ⟨s, hs, rfl, O, D⟩ := hrel
              obtain ⟨row, fb, q0, q1, r0, r1, lt⟩ := id D
              by_cases hlt : s < P
              · have ik : (s : Int) < (P : Int) := by omega
                obtain ⟨y1, y2⟩ := O.slot hlt
                rw [mixB_at] at y1
                obtain ⟨b2, off2, he, hbw, hc⟩ := row k X HXK.out
                cases he
                have hput := mixB_put F F2 s
                have hS := HS.out s
                have O5 := fun v => O.store s v
                have D5 := fun v => D.step ((Below.refl (w.heap.size + 1) wr).setCell (p := ⟨w.heap.size + 1, s, none⟩) (by simp) (.bool v))
                have ha := and_small (show s ≤ 8192 by omega) hX
                clear row
                cases hcur : F s with
                | true =>
                  rw [hcur] at y1 hS
                  rw [Bool.true_or] at hS
                  have O6 := O5 true
                  have D6 := D5 true
                  rw [hS] at hput
                  rw [hput] at O6
                  clear O5 D5 hS hcur O D hput ha
                  have HO6 := Lib.hid O6
                  have HD6 := Lib.hid D6
                  clear O6 D6
                  go_wp2_with fail
                  go_region
                  go_wp2_with fail
                  go_roundw
                  case rel => exact ⟨s + 1, by omega, by go_num, HO6.out.drewN _, HD6.out.next (belowN (Below.refl _ _) _)⟩
                  case measure => simp [intOf]; omega
                | false =>
                  rw [hcur] at y1 hS
                  rw [Bool.false_or, Nat.and_comm] at hS
                  by_cases hz : s &&& X = X
                  · rw [decide_eq_true hz] at hS
                    rw [hz] at ha
                    have O6 := O5 true
                    have D6 := D5 true
                    rw [hS] at hput
                    rw [hput] at O6
                    clear O5 D5 hS hcur O D hput hz
                    have HO6 := Lib.hid O6
                    have HD6 := Lib.hid D6
                    clear O6 D6
                    go_wp2_with fail
                    go_region
                    go_wp2_with fail
                    go_roundw
                    case rel => exact ⟨s + 1, by omega, by go_num, HO6.out.drewN _, HD6.out.next (belowN (Below.refl _ _) _)⟩
                    case measure => simp [intOf]; omega
                  · rw [decide_eq_false hz] at hS
                    have O6 := O5 false
                    have D6 := D5 false
                    rw [hS] at hput
                    rw [hput] at O6
                    clear O5 D5 hS hcur O D hput
                    have HO6 := Lib.hid O6
                    have HD6 := Lib.hid D6
                    clear O6 D6
                    generalize s &&& X = z at *
                    have hz1 : ((z : Int) = (X : Int)) = False := eq_false (by omega)
                    have hz2 : ((X : Int) = (z : Int)) = False := eq_false (by omega)
                    have hz3 : ((z : Int) == (X : Int)) = false := by simp; omega
                    go_wp2_with fail
                    go_region
                    go_wp2_with fail
                    go_roundw
                    case rel => exact ⟨s + 1, by omega, by go_num, HO6.out.drewN _, HD6.out.next (belowN (Below.refl _ _) _)⟩
                    case measure => simp [intOf]; omega
              · obtain rfl : s = P := by omega
                have O5 : OwnT wr (w.heap.size + 1) (w.heap.size + 1) s s (famB (G.take (k + 1))) := by rw [HF2.out]; exact O.congr fun i hi => mixB_in hi
                clear O row fb q0 q1 r0 r1 lt
                go_wp2_with fail
                go_roundw
                case rel => exact ⟨k + 1, by omega, by go_num, HGX, O5, D⟩
                case measure => simp [intOf]; omega
        · obtain rfl : k = n := by omega
          rw [HGALL.out] at O
          rw [HALL.out] at hgood
          have HQ := Lib.hid (HGOOD.out hgood.out)
          have hcall := HO.out wr (w.heap.size + 1) (famB G) (fun i hi => rfl) O.truths
          clear HO hkn hk HBAD HGOOD row
          go_wp2_with fail
          refine hcall.mono ?_
          clear hcall
          rintro e4 w4 ⟨A4, k4, rfl, own4, hb4⟩
          have D4 := D.next hb4
          have hsz := hb4.size
          clear D O hb4 fb q0 q1 r0 r1
          obtain ⟨-, fb, q0, q1, r0, r1, lt4⟩ := id D4
          go_wp2_with fail
          refine bodyPost_ret (v := .tuple #[.agg #[.int .i64 T, .slice A4 (natI R).length k4], .bool true]) (by simp [results, Try.results17, go_sem, *]) rfl ?_
          refine HQ.out _ _ ⟨A4, k4, rfl, ?_, (fb.setCell (p := ⟨w.heap.size, 0, none⟩) (by simp) _).setCell (p := ⟨w.heap.size, 1, none⟩) (by simp) _⟩
          have hge := own4.ge
          exact OwnI.far (OwnI.far (own4.more (by omega)) (fun j hj => by have := hge j hj; simp; omega) _) (fun j hj => by have := hge j hj; simp; omega) _
    · have hno : fromOk t xs = false := by unfold fromOk; rw [decide_eq_false h64]; simp
      unfold fromT fromL
      rw [hno, if_neg (by simp), if_neg (by simp)]
      rw [hT] at hcall
      have h65 : (64 : Int) < (xs.length : Int) := by omega
      obtain ⟨-, fb, q0, q1, r0, r1, lt⟩ := id D0
      clear hx hT hno
      go_enter Try.func17, Try.ntmps17
      go_wp2_with fail
      refine (hcall _).mono ?_
      rintro e1 w1 ⟨rfl, rfl⟩
      go_wp2_with fail
      refine bodyPost_ret (v := .tuple #[.agg #[.int .i64 0, .slice none 0 0], .bool false]) (by simp [results, Try.results17, go_sem, *]) rfl ?_
      exact ⟨none, 0, rfl, OwnI.nil _ _, fb⟩
end Go.Proofs.Ytmdmmebekicpkaa
