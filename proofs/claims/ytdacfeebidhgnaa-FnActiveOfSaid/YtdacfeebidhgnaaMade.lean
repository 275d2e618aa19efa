/- MadeOne of the program: plain facts, the renaming, and its contract. -/
import Derived.Test.YtdacfeebidhgnaaEdgesAt
import Derived.Test.YtdacfeebidhgnaaMark
import Derived.Test.YtdacfeebidhgnaaEd
import Derived.Deep.AppendLies
namespace Go.Proofs.Ytdacfeebidhgnaa
open Go.RowKit
set_option maxRecDepth 100000

/-- The number that a node has after the ends of g are made one. -/
def renI (g : Int × Int) (v : Int) : Int := if v = g.2 then g.1 else if g.2 < v then v - 1 else v
def mmE (g e : Int × Int) : Int × Int := (if renI g e.2 < renI g e.1 then renI g e.2 else renI g e.1, if renI g e.1 < renI g e.2 then renI g e.2 else renI g e.1)
def madeL (g : Int × Int) (es : List (Int × Int)) : List (Int × Int) := (es.filter fun e => !eqEB e g).map (mmE g)
theorem madeL_length (g : Int × Int) (es : List (Int × Int)) : (madeL g es).length + es.countP (fun e => eqEB e g) = es.length := by
  unfold madeL
  induction es with
  | nil => rfl
  | cons e es ih =>
    simp only [List.length_map] at ih ⊢
    cases h : eqEB e g <;> simp [h] <;> omega
theorem madeL_take {g : Int × Int} {es : List (Int × Int)} {k : Nat} (hk : k < es.length) : madeL g (es.take (k + 1)) = if eqEB es[k] g = true then madeL g (es.take k) else madeL g (es.take k) ++ [mmE g es[k]] := by
  unfold madeL
  rw [List.take_succ_eq_append_getElem hk, List.filter_append, List.map_append]
  cases h : eqEB es[k] g <;> simp [h]
theorem madeL_le (g : Int × Int) (es : List (Int × Int)) : (madeL g es).length ≤ es.length := by have := madeL_length g es; omega
theorem ren_eq {g e : Int × Int} (hg : g.1 < g.2) (he : e.1 < e.2) : renI g e.1 = renI g e.2 ↔ e = g := by
  unfold renI
  rw [Prod.ext_iff]
  split <;> split <;> (try split) <;> (try split) <;> omega

theorem renaming_any (a b : Int) (w : World) :
    Calls Try.prog 99 #[.agg #[.int .i64 a, .int .i64 b]] w fun e w' => e = .returned (.func (.func 132) #[] #[.pointer (some ⟨w.heap.size, 0, none⟩)]) ∧ w' = w.alloc (.cells #[.int .i64 a, .int .i64 b] 57) := by
  have hmf : ∀ (fn : Fn) (first cap : Array Value) (w : World), (Instr.makeFunc fn first cap).run Try.prog w = .ok (.func fn first cap) w := fun _ _ _ _ => rfl
  go_enter Try.func99, Try.ntmps99
  go_wp2
  go_returns
  exact ⟨rfl, rfl⟩

theorem renamed_any (a b v : Int) (g : Nat) (w : World) (c0 : w.cell? ⟨g, 0, none⟩ = some (.int .i64 a)) (c1 : w.cell? ⟨g, 1, none⟩ = some (.int .i64 b)) (hv : -1000 ≤ v ∧ v ≤ 1000) :
    Calls Try.prog 132 #[.int .i64 v, .pointer (some ⟨g, 0, none⟩)] w fun e w' => e = .returned (.int .i64 (renI (a, b) v)) ∧ w = w' := by
  by_cases h1 : v = b
  · have H : Hid (renI (a, b) v = a) := by simp [Hid, renI, h1]
    go_enter Try.func132, Try.ntmps132
    go_wp2
    go_returns
    exact ⟨by rw [H.out]; rfl, rfl⟩
  · by_cases h2 : b < v
    · have H : Hid (renI (a, b) v = v - 1) := by simp [Hid, renI, h1, h2]
      have hw : IntKind.i64.wrap (v - 1) = v - 1 := IntWalk.i64_in _ (by omega)
      go_enter Try.func132, Try.ntmps132
      go_wp2
      go_returns
      exact ⟨by rw [H.out]; rfl, rfl⟩
    · have H : Hid (renI (a, b) v = v) := by simp [Hid, renI, h1, h2]
      go_enter Try.func132, Try.ntmps132
      go_wp2
      go_returns
      exact ⟨by rw [H.out]; rfl, rfl⟩
/-- What MadeOne says. -/
def mOk (n : Int) (es : List (Int × Int)) (a : Int) : Bool := atOkB n es a && decide (3 ≤ n)
def mN (n : Int) (es : List (Int × Int)) (a : Int) : Int := if mOk n es a = true then n - 1 else 0
def mE (n : Int) (es : List (Int × Int)) (a : Int) : List (Int × Int) := if mOk n es a = true then madeL (es.getD a.toNat (0, 0)) es else []
def mL (n : Int) (es : List (Int × Int)) (a : Int) : Int := if mOk n es a = true then (es.countP (fun e => eqEB e (es.getD a.toNat (0, 0))) : Nat) - 1 else -1
def GotMade (w : World) (n : Int) (es : List (Int × Int)) (l : Int) (b : Bool) (e : Ending) (w' : World) : Prop :=
  ∃ A c, e = .returned (.tuple #[.agg #[.int .i64 n, .slice A es.length c], .int .i64 l, .bool b]) ∧ OwnE w' w.heap.size (.slice A es.length c) es ∧ Below w.heap.size w w'
theorem fit_ends {n : Int} {es : List (Int × Int)} (h : netOkB n es = true) {k : Nat} (hk : k < es.length) : 1 ≤ es[k].1 ∧ es[k].1 < es[k].2 ∧ es[k].2 ≤ n ∧ n ≤ 6 := by
  have h1 := netOkB_iff.1 h
  have h2 := h1.2.2 es[k] (List.getElem_mem hk)
  omega

/-- What stands before the loop: the net's box, the result's, the edge's, and the closure's. -/
structure MadeBox (w wr : World) (n : Int) (A : Option Addr) (cap : Nat) (es : List (Int × Int)) (B1 : Nat) (ga gb : Int) : Prop where
  L : ArgNet w wr n A cap es
  r0 : wr.cell? ⟨w.heap.size + 1, 0, none⟩ = some (.int .i64 0)
  r1 : wr.cell? ⟨w.heap.size + 1, 1, none⟩ = some (.slice none 0 0)
  q0 : wr.frozen? ⟨w.heap.size + 1, 0, none⟩ = false
  q1 : wr.frozen? ⟨w.heap.size + 1, 1, none⟩ = false
  x0 : wr.cell? ⟨B1, 0, none⟩ = some (.int .i64 ga)
  x1 : wr.cell? ⟨B1, 1, none⟩ = some (.int .i64 gb)
  y0 : wr.cell? ⟨B1 + 1, 0, none⟩ = some (.int .i64 ga)
  y1 : wr.cell? ⟨B1 + 1, 1, none⟩ = some (.int .i64 gb)
  o1 : w.heap.size + 1 < B1
  o2 : B1 + 1 < wr.heap.size
theorem MadeBox.step {w wr w2 : World} {n : Int} {A : Option Addr} {cap : Nat} {es : List (Int × Int)} {B1 : Nat} {ga gb : Int} (h : MadeBox w wr n A cap es B1 ga gb) (hb : Below (B1 + 2) wr w2) : MadeBox w w2 n A cap es B1 ga gb := by
  have o1 := h.o1
  have o2 := h.o2
  have hs := hb.size
  have cc : ∀ b o, b < B1 + 2 → w2.cell? ⟨b, o, none⟩ = wr.cell? ⟨b, o, none⟩ := fun b o h => hb.cell (p := ⟨b, o, none⟩) h
  have ff : ∀ b o, b < B1 + 2 → w2.frozen? ⟨b, o, none⟩ = wr.frozen? ⟨b, o, none⟩ := fun b o h => hb.frozen (p := ⟨b, o, none⟩) h
  exact ⟨h.L.step hb (by omega), (cc _ _ (by omega)).trans h.r0, (cc _ _ (by omega)).trans h.r1, (ff _ _ (by omega)).trans h.q0, (ff _ _ (by omega)).trans h.q1,
    (cc _ _ (by omega)).trans h.x0, (cc _ _ (by omega)).trans h.x1, (cc _ _ (by omega)).trans h.y0, (cc _ _ (by omega)).trans h.y1, o1, by omega⟩

set_option maxRecDepth 100000 in
set_option maxHeartbeats 4000000 in
theorem madeOne_any (n a : Int) (A : Option Addr) (cap : Nat) (es : List (Int × Int)) (w : World) (hes : EdgesIn w w.heap.size A es) (hl : es.length ≤ 1048576) :
    Calls Try.prog 40 #[.agg #[.int .i64 n, .slice A es.length cap], .int .i64 a] w (GotMade w (mN n es a) (mE n es a) (mL n es a) (mOk n es a)) := by
  have hes' := (boxE (boxE hes #[.int .i64 n, .slice A es.length cap] 29) #[.int .i64 0, .slice none 0 0] 29)
  have L0 := (ArgNet.start (cap := cap) (n := n) 29 hes).step ((Below.refl (w.heap.size + 1) _).alloc (by simp) (.cells #[.int .i64 0, .slice none 0 0] 29)) (by omega)
  by_cases hok : mOk n es a = true
  · have hh := hok
    simp only [mOk, atOkB, Bool.and_eq_true, decide_eq_true_eq] at hh
    obtain ⟨⟨hn, ha0, ha1⟩, hn3⟩ := hh
    have hn6 := (netOkB_iff.1 hn).1
    have h9 := (netOkB_iff.1 hn).2.1
    obtain ⟨k, rfl⟩ : ∃ k : Nat, a = k := ⟨a.toNat, by omega⟩
    have hk : k < es.length := by omega
    have HAT : Hid (atOkB n es k = true) := by simp [mOk] at hok; exact hok.1
    have hgd : es.getD k (0, 0) = es[k] := by simp [hk]
    obtain ⟨gg, hgg⟩ : ∃ gg, es[k] = gg := ⟨_, rfl⟩
    have HN : Hid (mN n es k = n - 1) := by simp [Hid, mN, hok]
    have HE : Hid (mE n es k = madeL gg es) := by simp only [Hid, mE, hok, if_true, Int.toNat_natCast, hgd, hgg]
    have HL : Hid (mL n es k = (es.countP (fun e => eqEB e gg) : Nat) - 1) := by simp only [Hid, mL, hok, if_true, Int.toNat_natCast, hgd, hgg]
    have hge := fit_ends hn hk
    rw [hgg] at hge
    obtain ⟨b, off, rfl, hbb, g1, g2⟩ := hes k _ (List.getElem?_eq_getElem hk)
    rw [hgg] at g1 g2
    obtain ⟨ga, gb⟩ := gg
    have HOK := Lib.hid hok
    have HGG := Lib.hid hgg
    have HNET := Lib.hid hn
    clear hok hn hgd hgg hes g1 g2
    go_enter Try.func40, Try.ntmps40
    go_wp2_with fail
    refine (edgeAtOk_any _ _ _ _ _ _ hes' hl).mono ?_
    rintro e1 w1 ⟨rfl, hb1⟩
    rw [HAT.out]
    have L1 := L0.step hb1 (by simp; omega)
    obtain ⟨_, _, c0, c1, s1⟩ := id L1
    have r0 : w1.cell? ⟨w.heap.size + 1, 0, none⟩ = some (.int .i64 0) := by
      rw [hb1.cell (p := ⟨w.heap.size + 1, 0, none⟩) (by simp), World.cell?_alloc_at _ _ _ _ (by simp)]; rfl
    have r1 : w1.cell? ⟨w.heap.size + 1, 1, none⟩ = some (.slice none 0 0) := by
      rw [hb1.cell (p := ⟨w.heap.size + 1, 1, none⟩) (by simp), World.cell?_alloc_at _ _ _ _ (by simp)]; rfl
    have q0 : w1.frozen? ⟨w.heap.size + 1, 0, none⟩ = false := (hb1.frozen (p := ⟨w.heap.size + 1, 0, none⟩) (by simp)).trans (World.frozen?_alloc_at _ _ _ _ (by simp))
    have q1 : w1.frozen? ⟨w.heap.size + 1, 1, none⟩ = false := (hb1.frozen (p := ⟨w.heap.size + 1, 1, none⟩) (by simp)).trans (World.frozen?_alloc_at _ _ _ _ (by simp))
    have s2 : w.heap.size + 1 < w1.heap.size := by have := hb1.size; simp only [World.size_alloc] at this; omega
    obtain ⟨b', off', he', _, g1, g2⟩ := L1.at_ k _ (List.getElem?_eq_getElem hk)
    injection he' with he'; injection he' with he1 he2
    subst he1 he2
    rw [HGG.out] at g1 g2
    clear hb1 hes' L0
    go_wp2_with fail
    refine (renaming_any ga gb _).mono ?_
    rintro e2 w2 ⟨rfl, rfl⟩
    go_wp2_with fail
    have M0 : MadeBox w ((w1.alloc (.cells #[.int .i64 ga, .int .i64 gb] 57)).alloc (.cells #[.int .i64 ga, .int .i64 gb] 57)) n (some ⟨b, off, none⟩) cap es w1.heap.size ga gb := by
      have hbel : Below w1.heap.size w1 ((w1.alloc (.cells #[.int .i64 ga, .int .i64 gb] 57)).alloc (.cells #[.int .i64 ga, .int .i64 gb] 57)) := ((Below.refl _ _).alloc (Nat.le_refl _) _).alloc (by simp) _
      refine ⟨L1.step hbel s1, (hbel.cell (p := ⟨_, 0, none⟩) s2).trans r0, (hbel.cell (p := ⟨_, 1, none⟩) s2).trans r1, (hbel.frozen (p := ⟨_, 0, none⟩) s2).trans q0, (hbel.frozen (p := ⟨_, 1, none⟩) s2).trans q1, ?_, ?_, ?_, ?_, s2, by simp⟩
      · rw [((Below.refl (w1.heap.size + 1) (w1.alloc (.cells #[.int .i64 ga, .int .i64 gb] 57))).alloc (by simp) _).cell (p := ⟨w1.heap.size, 0, none⟩) (by simp), World.cell?_alloc_at _ _ _ _ rfl]; rfl
      · rw [((Below.refl (w1.heap.size + 1) (w1.alloc (.cells #[.int .i64 ga, .int .i64 gb] 57))).alloc (by simp) _).cell (p := ⟨w1.heap.size, 1, none⟩) (by simp), World.cell?_alloc_at _ _ _ _ rfl]; rfl
      · rw [World.cell?_alloc_at _ _ _ _ (by simp)]; rfl
      · rw [World.cell?_alloc_at _ _ _ _ (by simp)]; rfl
    clear L1 c0 c1 s1 r0 r1 q0 q1 s2 g1 g2
    generalize ((w1.alloc (.cells #[.int .i64 ga, .int .i64 gb] 57)).alloc (.cells #[.int .i64 ga, .int .i64 gb] 57)) = W0 at *
    generalize w1.heap.size = B1 at *
    obtain ⟨i0, hi0, hz0, hz1, hz2⟩ := info_parts edge_info
    go_loopw [9, 35] (fun v t wr => ∃ (j : Nat) (A' : Option Addr) (c' : Nat), j ≤ es.length ∧ t = .int .i64 (j : Nat) ∧ v = .slice A' (madeL (ga, gb) (es.take j)).length c' ∧ OwnE wr (B1 + 2) (.slice A' (madeL (ga, gb) (es.take j)).length c') (madeL (ga, gb) (es.take j)) ∧ MadeBox w wr n (some ⟨b, off, none⟩) cap es B1 ga gb) (fun _ t _ => es.length - (intOf t).toNat)
    case atStart => exact ⟨0, none, 0, by omega, rfl, rfl, OwnE.nil _ _, M0⟩
    case round =>
      obtain ⟨j, A', c', hj, rfl, rfl, OW, M⟩ := hrel
      obtain ⟨L, r0, r1, q0, q1, x0, x1, y0, y1, o1, o2⟩ := id M
      obtain ⟨_, _, c0, c1, s1⟩ := id L
      have o3 : B1 < wr.heap.size := by omega
      have o4 : w.heap.size + 1 < wr.heap.size := by omega
      by_cases hlt : j < es.length
      · have hmt := madeL_take (g := (ga, gb)) hlt
        have hfe := fit_ends HNET.out hlt
        obtain ⟨b', off', he', _, g1, g2⟩ := L.at_ j _ (List.getElem?_eq_getElem hlt)
        injection he' with he'; injection he' with he1 he2
        subst he1 he2
        obtain ⟨ed, hed⟩ : ∃ ed, es[j] = ed := ⟨_, rfl⟩
        rw [hed] at hmt hfe g1 g2
        clear hed
        obtain ⟨ex, ey⟩ := ed
        by_cases he : (ex, ey) = (ga, gb)
        · have hmt' := Lib.hid (hmt.trans (if_pos (by simp [eqEB, he])))
          injection he with he1 he2
          subst he1 he2
          have M2 := M.step ((Below.refl (B1 + 2) wr).alloc (by omega) (.cells #[.int .i64 ex, .int .i64 ey] 57))
          have OW2 := World.ownsRow.alloc OW (.cells #[.int .i64 ex, .int .i64 ey] 57)
          clear hmt
          go_wp2_with fail
          go_roundw
          case rel => exact ⟨j + 1, A', c', by omega, by go_num, by rw [hmt'.out], by rw [hmt'.out]; exact OW2, M2⟩
          case measure => simp [intOf]; omega
        · have hmt' := Lib.hid (hmt.trans (if_neg (by simpa [eqEB] using he)))
          have M2 := M.step ((Below.refl (B1 + 2) wr).alloc (by omega) (.cells #[.int .i64 ex, .int .i64 ey] 57))
          have OW2 := World.ownsRow.alloc OW (.cells #[.int .i64 ex, .int .i64 ey] 57)
          have hne : ¬ (ex = ga ∧ ey = gb) := fun h => he (by rw [h.1, h.2])
          clear hmt he
          by_cases h1 : ex = ga
          · subst h1
            have h2 : ¬ ey = gb := fun e => hne ⟨rfl, e⟩
            clear hne
            have rx0 := hfe
            have hRX : Hid (renI (ex, gb) ex = renI (ex, gb) ex) := rfl
            go_wp2_with fail
            refine wp_region_class (fun u => MadeBox w u n (some ⟨b, off, none⟩) cap es B1 ex gb ∧ OwnE u (B1 + 2) (.slice A' (madeL (ex, gb) (es.take j)).length c') (madeL (ex, gb) (es.take j)) ∧ u.cell? ⟨wr.heap.size, 0, none⟩ = some (.int .i64 ex) ∧ u.cell? ⟨wr.heap.size, 1, none⟩ = some (.int .i64 ey)) (by kernel_rfl) (by kernel_rfl) ⟨M2.step ((Below.refl _ _).drew), OwnE.below OW2 ((Below.refl (wr.alloc (.cells #[.int .i64 ex, .int .i64 ey] 57)).heap.size _).drew) (fun k hk => OwnE.lt OW2 k hk), by show (wr.alloc _).cell? _ = _; rw [World.cell?_alloc_at _ _ _ _ rfl]; rfl, by show (wr.alloc _).cell? _ = _; rw [World.cell?_alloc_at _ _ _ _ rfl]; rfl⟩ ?_
            intro X hX f hf hex
            have k2 : ∀ x, (f x).cell? ⟨wr.heap.size, 0, none⟩ = some (.int .i64 ex) := fun x => (hf x).2.2.1
            have k3 : ∀ x, (f x).cell? ⟨wr.heap.size, 1, none⟩ = some (.int .i64 ey) := fun x => (hf x).2.2.2
            have hRx : ∀ x, Calls Try.prog 132 #[.int .i64 ex, .pointer (some ⟨B1 + 1, 0, none⟩)] (f x) fun e w' => e = .returned (.int .i64 (renI (ex, gb) ex)) ∧ f x = w' := fun x => renamed_any ex gb ex _ _ (hf x).1.y0 (hf x).1.y1 (by omega)
            have hRy : ∀ x, Calls Try.prog 132 #[.int .i64 ey, .pointer (some ⟨B1 + 1, 0, none⟩)] (f x) fun e w' => e = .returned (.int .i64 (renI (ex, gb) ey)) ∧ f x = w' := fun x => renamed_any ex gb ey _ _ (hf x).1.y0 (hf x).1.y1 (by omega)
            repeat (go_big_quiet_step (first
              | (go_at_call 132; with_reducible exact class_same (hRx _))
              | (go_at_call 132; with_reducible exact class_same (hRy _))))
            refine wpQuiet_nil ?_
            rintro _ ⟨x, rfl⟩
            obtain ⟨M4, OW4, -, -⟩ := hf x
            obtain ⟨p, hp⟩ : ∃ p, (mmE (ex, gb) (ex, ey)).1 = p := ⟨_, rfl⟩
            obtain ⟨q, hq⟩ : ∃ q, (mmE (ex, gb) (ex, ey)).2 = q := ⟨_, rfl⟩
            have hpq : mmE (ex, gb) (ex, ey) = (p, q) := by rw [← hp, ← hq]
            rw [hpq] at hmt'
            have hp' : (if renI (ex, gb) ey < renI (ex, gb) ex then renI (ex, gb) ey else renI (ex, gb) ex) = p := hp
            have hq' : (if renI (ex, gb) ex < renI (ex, gb) ey then renI (ex, gb) ey else renI (ex, gb) ex) = q := hq
            have hKl := madeL_le (ex, gb) (es.take j)
            have htl : (es.take j).length = j := by rw [List.length_take]; omega
            rw [htl] at hKl
            have HO := Lib.hid OW4
            have o24 := M4.o2
            clear k2 k3 hRx hRy hex hp hq hpq htl OW OW2 M2 OW4
            generalize f x = u at *
            clear hf f
            generalize renI (ex, gb) ex = rx at *
            generalize renI (ex, gb) ey = ry at *
            generalize madeL (ex, gb) (es.take j) = K at *
            go_wp2_with (at_builtin; (refine wpList_append_lies _ rfl (.tmp 50) (.tmp 58) 27 rfl (B1 + 2) 57 i0 _ 2 16 Try.underlying27 hi0 hz0 hz1 hz2 rfl (by omega) (.slice A' K.length c') K.length (flat K) rfl (World.ownsRow.alloc HO.out _) ⟨u.heap.size, 0, none⟩ 1 1 [.int .i64 p, .int .i64 q] rfl rfl (World.news_of_block (cs := #[.int .i64 p, .int .i64 q]) (t := 57) (fr := (0, 0)) (heap_alloc_new _ _)) (by simp [Value.oneCell']) (by omega) (by simp [maxLen]; omega) (by omega) (by simp; omega) _ rfl ?_); intro gg cc w5 hown5 hgrow hat hlt5; have hbel : Below (B1 + 2) u w5 := ((Below.refl (B1 + 2) u).alloc (by omega) _).grown hgrow (by simp; omega) (fun j hj => (World.ownsRow.lt HO.out j hj).1))
            have M5 := M4.step hbel
            have O5 : OwnE w5 (B1 + 2) (.slice (some ⟨gg, 0, none⟩) (madeL (ex, gb) (es.take (j + 1))).length cc) (madeL (ex, gb) (es.take (j + 1))) := by
              rw [hmt'.out, List.length_append]; unfold OwnE; rw [flat_append, List.length_append]; exact hown5
            go_roundw
            case rel => exact ⟨j + 1, some ⟨gg, 0, none⟩, cc, by omega, by go_num, by rw [hmt'.out, List.length_append]; rfl, O5, M5⟩
            case measure => simp [intOf]; omega
          · clear hne
            have rx0 := hfe
            have hRX : Hid (renI (ga, gb) ex = renI (ga, gb) ex) := rfl
            go_wp2_with fail
            refine wp_region_class (fun u => MadeBox w u n (some ⟨b, off, none⟩) cap es B1 ga gb ∧ OwnE u (B1 + 2) (.slice A' (madeL (ga, gb) (es.take j)).length c') (madeL (ga, gb) (es.take j)) ∧ u.cell? ⟨wr.heap.size, 0, none⟩ = some (.int .i64 ex) ∧ u.cell? ⟨wr.heap.size, 1, none⟩ = some (.int .i64 ey)) (by kernel_rfl) (by kernel_rfl) ⟨M2.step ((Below.refl _ _).drew), OwnE.below OW2 ((Below.refl (wr.alloc (.cells #[.int .i64 ex, .int .i64 ey] 57)).heap.size _).drew) (fun k hk => OwnE.lt OW2 k hk), by show (wr.alloc _).cell? _ = _; rw [World.cell?_alloc_at _ _ _ _ rfl]; rfl, by show (wr.alloc _).cell? _ = _; rw [World.cell?_alloc_at _ _ _ _ rfl]; rfl⟩ ?_
            intro X hX f hf hex
            have k2 : ∀ x, (f x).cell? ⟨wr.heap.size, 0, none⟩ = some (.int .i64 ex) := fun x => (hf x).2.2.1
            have k3 : ∀ x, (f x).cell? ⟨wr.heap.size, 1, none⟩ = some (.int .i64 ey) := fun x => (hf x).2.2.2
            have hRx : ∀ x, Calls Try.prog 132 #[.int .i64 ex, .pointer (some ⟨B1 + 1, 0, none⟩)] (f x) fun e w' => e = .returned (.int .i64 (renI (ga, gb) ex)) ∧ f x = w' := fun x => renamed_any ga gb ex _ _ (hf x).1.y0 (hf x).1.y1 (by omega)
            have hRy : ∀ x, Calls Try.prog 132 #[.int .i64 ey, .pointer (some ⟨B1 + 1, 0, none⟩)] (f x) fun e w' => e = .returned (.int .i64 (renI (ga, gb) ey)) ∧ f x = w' := fun x => renamed_any ga gb ey _ _ (hf x).1.y0 (hf x).1.y1 (by omega)
            repeat (go_big_quiet_step (first
              | (go_at_call 132; with_reducible exact class_same (hRx _))
              | (go_at_call 132; with_reducible exact class_same (hRy _))))
            refine wpQuiet_nil ?_
            rintro _ ⟨x, rfl⟩
            obtain ⟨M4, OW4, -, -⟩ := hf x
            obtain ⟨p, hp⟩ : ∃ p, (mmE (ga, gb) (ex, ey)).1 = p := ⟨_, rfl⟩
            obtain ⟨q, hq⟩ : ∃ q, (mmE (ga, gb) (ex, ey)).2 = q := ⟨_, rfl⟩
            have hpq : mmE (ga, gb) (ex, ey) = (p, q) := by rw [← hp, ← hq]
            rw [hpq] at hmt'
            have hp' : (if renI (ga, gb) ey < renI (ga, gb) ex then renI (ga, gb) ey else renI (ga, gb) ex) = p := hp
            have hq' : (if renI (ga, gb) ex < renI (ga, gb) ey then renI (ga, gb) ey else renI (ga, gb) ex) = q := hq
            have hKl := madeL_le (ga, gb) (es.take j)
            have htl : (es.take j).length = j := by rw [List.length_take]; omega
            rw [htl] at hKl
            have HO := Lib.hid OW4
            have o24 := M4.o2
            clear k2 k3 hRx hRy hex hp hq hpq htl OW OW2 M2 OW4
            generalize f x = u at *
            clear hf f
            generalize renI (ga, gb) ex = rx at *
            generalize renI (ga, gb) ey = ry at *
            generalize madeL (ga, gb) (es.take j) = K at *
            go_wp2_with (at_builtin; (refine wpList_append_lies _ rfl (.tmp 50) (.tmp 58) 27 rfl (B1 + 2) 57 i0 _ 2 16 Try.underlying27 hi0 hz0 hz1 hz2 rfl (by omega) (.slice A' K.length c') K.length (flat K) rfl (World.ownsRow.alloc HO.out _) ⟨u.heap.size, 0, none⟩ 1 1 [.int .i64 p, .int .i64 q] rfl rfl (World.news_of_block (cs := #[.int .i64 p, .int .i64 q]) (t := 57) (fr := (0, 0)) (heap_alloc_new _ _)) (by simp [Value.oneCell']) (by omega) (by simp [maxLen]; omega) (by omega) (by simp; omega) _ rfl ?_); intro gg cc w5 hown5 hgrow hat hlt5; have hbel : Below (B1 + 2) u w5 := ((Below.refl (B1 + 2) u).alloc (by omega) _).grown hgrow (by simp; omega) (fun j hj => (World.ownsRow.lt HO.out j hj).1))
            have M5 := M4.step hbel
            have O5 : OwnE w5 (B1 + 2) (.slice (some ⟨gg, 0, none⟩) (madeL (ga, gb) (es.take (j + 1))).length cc) (madeL (ga, gb) (es.take (j + 1))) := by
              rw [hmt'.out, List.length_append]; unfold OwnE; rw [flat_append, List.length_append]; exact hown5
            go_roundw
            case rel => exact ⟨j + 1, some ⟨gg, 0, none⟩, cc, by omega, by go_num, by rw [hmt'.out, List.length_append]; rfl, O5, M5⟩
            case measure => simp [intOf]; omega
      · obtain rfl : j = es.length := by omega
        rw [List.take_length] at OW ⊢
        have hml := madeL_length (ga, gb) es
        have BB := L.below
        have wl1 : IntKind.i64.wrap ((es.length : Int) - ((madeL (ga, gb) es).length : Int)) = (es.length : Int) - ((madeL (ga, gb) es).length : Int) := IntWalk.i64_in _ (by omega)
        have wl2 : IntKind.i64.wrap ((es.length : Int) - ((madeL (ga, gb) es).length : Int) - 1) = (es.length : Int) - ((madeL (ga, gb) es).length : Int) - 1 := IntWalk.i64_in _ (by omega)
        have hLL : (es.length : Int) - ((madeL (ga, gb) es).length : Int) - 1 = (es.countP (fun e => eqEB e (ga, gb)) : Nat) - 1 := by omega
        have HLL := Lib.hid hLL
        clear hml hLL
        generalize madeL (ga, gb) es = K at *
        go_wp2_with fail
        refine bodyPost_ret (v := .tuple #[.agg #[.int .i64 (n - 1), .slice A' K.length c'], .int .i64 ((es.length : Int) - (K.length : Int) - 1), .bool true]) (by simp [results, Try.results40, go_sem, *]) rfl ?_
        rw [HN.out, HE.out, HL.out, HOK.out, ← HLL.out]
        have OW' : OwnE wr w.heap.size (.slice A' K.length c') K := OwnE.more OW (by omega)
        have hfar : ∀ k, (Value.slice A' K.length c').ownBlock = some k → k ≠ w.heap.size + 1 := fun k hk => by have := (World.ownsRow.lt OW k hk).1; omega
        exact ⟨A', c', rfl, (OW'.far hfar _).far hfar _, (BB.setCell (by simp) _).setCell (by simp) _⟩
  · have HOK : Hid (mOk n es a = false) := by simpa [Hid] using hok
    have HN : Hid (mN n es a = 0) := by simp [Hid, mN, HOK.out]
    have HE : Hid (mE n es a = []) := by simp [Hid, mE, HOK.out]
    have HL : Hid (mL n es a = -1) := by simp [Hid, mL, HOK.out]
    clear hok
    rw [HN.out, HE.out, HL.out, HOK.out]
    have c0 := L0.c0
    have c1 := L0.c1
    have BB0 := L0.below
    by_cases hn3 : n < 3
    · go_enter Try.func40, Try.ntmps40
      go_wp2_with fail
      refine bodyPost_ret (v := .tuple #[.agg #[.int .i64 0, .slice none 0 0], .int .i64 (-1), .bool false]) (by simp [results, Try.results40, go_sem, *]) rfl ?_
      exact ⟨none, 0, rfl, OwnE.nil _ _, BB0⟩
    · have HAT : Hid (atOkB n es a = false) := by
        have h := HOK.out
        simp only [mOk] at h
        rw [show decide (3 ≤ n) = true by simp; omega, Bool.and_true] at h
        exact h
      go_enter Try.func40, Try.ntmps40
      go_wp2_with fail
      refine (edgeAtOk_any _ _ _ _ _ _ hes' hl).mono ?_
      rintro e1 w1 ⟨rfl, hb1⟩
      rw [HAT.out]
      have L1 := L0.step hb1 (by simp; omega)
      have r0 : w1.cell? ⟨w.heap.size + 1, 0, none⟩ = some (.int .i64 0) := by
        rw [hb1.cell (p := ⟨w.heap.size + 1, 0, none⟩) (by simp), World.cell?_alloc_at _ _ _ _ (by simp)]; rfl
      have r1 : w1.cell? ⟨w.heap.size + 1, 1, none⟩ = some (.slice none 0 0) := by
        rw [hb1.cell (p := ⟨w.heap.size + 1, 1, none⟩) (by simp), World.cell?_alloc_at _ _ _ _ (by simp)]; rfl
      have q0 : w1.frozen? ⟨w.heap.size + 1, 0, none⟩ = false := (hb1.frozen (p := ⟨w.heap.size + 1, 0, none⟩) (by simp)).trans (World.frozen?_alloc_at _ _ _ _ (by simp))
      have q1 : w1.frozen? ⟨w.heap.size + 1, 1, none⟩ = false := (hb1.frozen (p := ⟨w.heap.size + 1, 1, none⟩) (by simp)).trans (World.frozen?_alloc_at _ _ _ _ (by simp))
      have BB := L1.below
      clear hb1 hes' L0 c0 c1 BB0
      go_wp2_with fail
      refine bodyPost_ret (v := .tuple #[.agg #[.int .i64 0, .slice none 0 0], .int .i64 (-1), .bool false]) (by simp [results, Try.results40, go_sem, *]) rfl ?_
      exact ⟨none, 0, rfl, OwnE.nil _ _, (BB.setCell (by simp) _).setCell (by simp) _⟩
end Go.Proofs.Ytdacfeebidhgnaa
