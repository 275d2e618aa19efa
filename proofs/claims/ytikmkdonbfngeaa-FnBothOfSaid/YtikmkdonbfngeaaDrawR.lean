/- The draws of two numbers and of two rows. -/
import Derived.Test.YtikmkdonbfngeaaDrawFns
import Derived.Test.YtikmkdonbfngeaaRow
import Derived.Deep.AppendLies
namespace Go.Proofs.Ytikmkdonbfngeaa
open Go.RowKit
set_option maxRecDepth 100000

theorem drawChoicesOf_any (A : Option Addr) (l cap : Nat) (w : World) (hb : BytesIn w w.heap.size A l) (hl : l ≤ 1048576) (hc : l ≤ cap) :
    Calls Try.prog 38 #[.slice A l cap] w fun e w' => ∃ n k : Int, e = .returned (.tuple #[.int .i64 n, .int .i64 k]) ∧ -1 ≤ n ∧ n ≤ 21 ∧ -1 ≤ k ∧ k ≤ 11 ∧ Below w.heap.size w w' := by
  go_enter Try.func38, Try.ntmps38
  go_wp2_with fail
  refine (open_any _ _ _ _ hb hl hc).mono ?_
  rintro e1 w1 ⟨rb, B, l1, c1, rfl, H1, hge, hb1⟩
  go_wp2_with fail
  refine (pick_any _ _ _ _ _ _ _ H1 (by omega) (by omega)).mono ?_
  rintro e2 w2 ⟨x2, m2, rfl, a2, b2, -, rfl⟩
  have b2 := b2 (by omega)
  have H2 := H1.next m2
  have BB2 : Below w.heap.size w (readOn w1 rb 0 m2) := hb1.trans (below_of_grown (readOn_grown w1 rb 0 m2) hb1.size hge)
  have wx2 : IntKind.i64.wrap (x2 - 1) = x2 - 1 := IntWalk.i64_in _ (by omega)
  generalize readOn w1 rb 0 m2 = v2 at *
  go_wp2_with fail
  refine (pick_any _ _ _ _ _ _ _ H2 (by omega) (by omega)).mono ?_
  rintro e3 w3 ⟨x3, m3, rfl, a3, b3, -, rfl⟩
  have b3 := b3 (by omega)
  have H3 := H2.next m3
  have BB3 := BB2.trans (below_of_grown (readOn_grown v2 rb (0 + 1) m3) BB2.size hge)
  generalize readOn v2 rb (0 + 1) m3 = v3 at *
  go_wp2_with fail
  refine (pick_any _ _ _ _ _ _ _ H3 (by omega) (by omega)).mono ?_
  rintro e4 w4 ⟨x4, m4, rfl, a4, b4, -, rfl⟩
  have b4 := b4 (by omega)
  have BB4 := BB3.trans (below_of_grown (readOn_grown v3 rb (0 + 1 + 1) m4) BB3.size hge)
  have wt4 : x4.tdiv 19 = x4 / 19 := Int.tdiv_eq_ediv_of_nonneg a4
  have wu4 : IntKind.i64.wrap (x4 / 19) = x4 / 19 := IntWalk.i64_in _ (by omega)
  have wv4 : IntKind.i64.wrap (x3 - x4 / 19) = x3 - x4 / 19 := IntWalk.i64_in _ (by omega)
  generalize readOn v3 rb (0 + 1 + 1) m4 = v4 at *
  go_wp2_with fail
  refine bodyPost_ret (v := .tuple #[.int .i64 (x2 - 1), .int .i64 (x3 - x4 / 19)]) (by simp [results, Try.results38, go_sem, *]) rfl ?_
  exact ⟨x2 - 1, x3 - x4 / 19, rfl, by omega, by omega, by omega, by omega, BB4⟩

def small (xs : List Int) : Prop := ∀ x ∈ xs, 0 ≤ x ∧ x ≤ 8
theorem small_snoc {xs : List Int} {x : Int} (h : small xs) (h0 : 0 ≤ x) (h1 : x < 9) : small (xs ++ [x]) := by
  intro y hy
  rcases List.mem_append.1 hy with hy | hy
  · exact h y hy
  · obtain rfl : y = x := by simpa using hy
    omega
theorem small_zero (n : Nat) : small (List.replicate n 0) := by
  intro y hy
  have := List.eq_of_mem_replicate hy
  omega
def GotRows (w : World) (e : Ending) (w' : World) : Prop :=
  ∃ A c xs B d ys, e = .returned (.tuple #[.slice A xs.length c, .slice B ys.length d]) ∧ OwnI w' w.heap.size (.slice A xs.length c) xs ∧ OwnI w' w.heap.size (.slice B ys.length d) ys ∧
    small xs ∧ small ys ∧ xs.length ≤ 5 ∧ ys.length ≤ 31 ∧ Below w.heap.size w w'
theorem readOn_ownI {w : World} {base : Nat} {v : Value} {xs : List Int} (h : OwnI w base v xs) (rb p m : Nat) (hr : rb < base) : OwnI (readOn w rb p m) base v xs := by
  have := h.far (p := ⟨rb, 1, none⟩) (fun k hk => by have := h.ge k hk; simp; omega) (.int .i64 ((p : Int) + 1))
  exact this.drewN m
theorem OwnI.kept {w w' : World} {base : Nat} {v : Value} {xs : List Int} {r : Option Nat} (h : OwnI w base v xs) (hg : w.grownBy w' r) (hr : ∀ k, v.ownBlock = some k → r ≠ some k) : OwnI w' base v xs := by
  refine World.ownsRow.kept h hg ?_
  cases ho : v.ownBlock with
  | none => exact .inl rfl
  | some j => exact .inr fun e => hr j ho e.symm
theorem grown_box {a b : World} {r : Option Nat} {o : Obj} (hg : (a.alloc o).grownBy b r) : a.grownBy b r := grown_trans (World.grownBy_alloc a o r) hg

/-- In the first loop: both rows, the second still empty in block T. -/
structure Two1 (w u : World) (rb T : Nat) (B : Option Addr) (l cap q : Nat) (va : Value) (xs : List Int) : Prop where
  rd : Rd u rb B l cap q
  own : OwnI u (rb + 1) va xs
  far : ∀ k, va.ownBlock = some k → k ≠ T
  emp : OwnI u (rb + 1) (.slice (some ⟨T, 0, none⟩) 0 0) []
  lt : rb < T
  size : T < u.heap.size
  bel : Below w.heap.size w u
  ge : w.heap.size ≤ rb
theorem Two1.read {w u : World} {rb T : Nat} {B : Option Addr} {l cap q : Nat} {va : Value} {xs : List Int} (h : Two1 w u rb T B l cap q va xs) (m : Nat) : Two1 w (readOn u rb q m) rb T B l cap (q + 1) va xs :=
  ⟨h.rd.next m, readOn_ownI h.own _ _ _ (by omega), h.far, readOn_ownI h.emp _ _ _ (by omega), h.lt, by rw [readOn_size]; exact h.size, h.bel.trans (below_of_grown (readOn_grown u rb q m) h.bel.size h.ge), h.ge⟩
/-- In the second loop: the first row is done, in a block that is not T and lies before K; the second is in block T or from K on. -/
structure Two2 (w u : World) (rb T K : Nat) (B : Option Addr) (l cap q : Nat) (va : Value) (xs : List Int) (vb : Value) (ys : List Int) : Prop where
  rd : Rd u rb B l cap q
  own : OwnI u (rb + 1) va xs
  far : ∀ k, va.ownBlock = some k → k ≠ T ∧ k < K
  own2 : OwnI u (rb + 1) vb ys
  at_ : ∀ k, vb.ownBlock = some k → k = T ∨ K ≤ k
  lt : rb < T
  size : T < u.heap.size
  size2 : K ≤ u.heap.size
  bel : Below w.heap.size w u
  ge : w.heap.size ≤ rb
theorem Two2.read {w u : World} {rb T K : Nat} {B : Option Addr} {l cap q : Nat} {va vb : Value} {xs ys : List Int} (h : Two2 w u rb T K B l cap q va xs vb ys) (m : Nat) : Two2 w (readOn u rb q m) rb T K B l cap (q + 1) va xs vb ys :=
  ⟨h.rd.next m, readOn_ownI h.own _ _ _ (by omega), h.far, readOn_ownI h.own2 _ _ _ (by omega), h.at_, h.lt, by rw [readOn_size]; exact h.size, by rw [readOn_size]; exact h.size2, h.bel.trans (below_of_grown (readOn_grown u rb q m) h.bel.size h.ge), h.ge⟩

theorem Two1.append {w u u' : World} {rb T : Nat} {B : Option Addr} {l cap q n c g cc : Nat} {A : Option Addr} {xs xs' : List Int} (h : Two1 w u rb T B l cap q (.slice A n c) xs) (hg : u.grownBy u' (Value.slice A n c).ownBlock)
    (own' : OwnI u' (rb + 1) (.slice (some ⟨g, 0, none⟩) (n + 1) cc) xs') (hat : (Value.slice A n c).ownBlock = some g ∨ u.heap.size ≤ g) : Two1 w u' rb T B l cap q (.slice (some ⟨g, 0, none⟩) (n + 1) cc) xs' := by
  have hz := h.size
  have hrb := h.rd.lt
  have hge := h.own.ge
  have hb : Below (rb + 1) u u' := ⟨hg.os, hg.tape, hg.output, hg.size, fun k hk => hg.block k (by omega) (fun e => by have := hge k e.symm; omega)⟩
  refine ⟨h.rd.keep hb (by omega), own', ?_, h.emp.kept hg ?_, h.lt, Nat.lt_of_lt_of_le hz hg.size, h.bel.trans (hb.mono (by have := h.ge; omega)), h.ge⟩
  · intro k hk
    obtain rfl : g = k := by simpa [Value.ownBlock] using hk
    rcases hat with e | e
    · exact h.far _ e
    · omega
  · intro k hk e
    obtain rfl : T = k := by simpa [Value.ownBlock] using hk
    exact h.far _ e rfl
theorem Two2.append {w u u' : World} {rb T K : Nat} {B : Option Addr} {l cap q n c g cc : Nat} {A : Option Addr} {va : Value} {xs ys ys' : List Int} (h : Two2 w u rb T K B l cap q va xs (.slice A n c) ys) (hg : u.grownBy u' (Value.slice A n c).ownBlock)
    (own' : OwnI u' (rb + 1) (.slice (some ⟨g, 0, none⟩) (n + 1) cc) ys') (hat : (Value.slice A n c).ownBlock = some g ∨ u.heap.size ≤ g) : Two2 w u' rb T K B l cap q va xs (.slice (some ⟨g, 0, none⟩) (n + 1) cc) ys' := by
  have hz := h.size
  have hz2 := h.size2
  have hrb := h.rd.lt
  have hge := h.own2.ge
  have hb : Below (rb + 1) u u' := ⟨hg.os, hg.tape, hg.output, hg.size, fun k hk => hg.block k (by omega) (fun e => by have := hge k e.symm; omega)⟩
  refine ⟨h.rd.keep hb (by omega), h.own.kept hg ?_, h.far, own', ?_, h.lt, Nat.lt_of_lt_of_le hz hg.size, Nat.le_trans hz2 hg.size, h.bel.trans (hb.mono (by have := h.ge; omega)), h.ge⟩
  · intro k hk e
    have h1 := h.far k hk
    have h2 := h.at_ k e
    omega
  · intro k hk
    obtain rfl : g = k := by simpa [Value.ownBlock] using hk
    rcases hat with e | e
    · exact h.at_ _ e
    · exact .inr (by omega)

set_option maxHeartbeats 4000000 in
theorem drawBothOf_any (A : Option Addr) (l cap : Nat) (w : World) (hb : BytesIn w w.heap.size A l) (hl : l ≤ 1048576) (hc : l ≤ cap) :
    Calls Try.prog 40 #[.slice A l cap] w (GotRows w) := by
  obtain ⟨i0, hi0, hz0, hz1, hz2⟩ := info_parts int_info
  go_enter Try.func40, Try.ntmps40
  go_wp2_with fail
  refine (open_any _ _ _ _ hb hl hc).mono ?_
  rintro e1 w1 ⟨rb, B, l1, c1, rfl, H1, hge, hb1⟩
  have hrb := H1.lt
  have S1 : Two1 w ((w1.alloc (.cells #[] 3)).alloc (.cells #[] 3)) rb (w1.heap.size + 1) B l1 c1 0 (.slice (some ⟨w1.heap.size, 0, none⟩) 0 0) [] := by
    have k1 : Below w1.heap.size w1 (w1.alloc (.cells #[] 3)) := (Below.refl _ _).alloc (Nat.le_refl _) _
    have k2 : Below (w1.heap.size + 1) (w1.alloc (.cells #[] 3)) ((w1.alloc (.cells #[] 3)).alloc (.cells #[] 3)) := (Below.refl _ _).alloc (by simp) _
    have o1 : OwnI (w1.alloc (.cells #[] 3)) (rb + 1) (.slice (some ⟨w1.heap.size, 0, none⟩) 0 0) [] := OwnI.box w1 [] (by omega) (by simp)
    have o2 : OwnI ((w1.alloc (.cells #[] 3)).alloc (.cells #[] 3)) (rb + 1) (.slice (some ⟨(w1.alloc (.cells #[] 3)).heap.size, 0, none⟩) 0 0) [] := OwnI.box (w1.alloc (.cells #[] 3)) [] (by simp; omega) (by simp)
    rw [World.size_alloc] at o2
    refine ⟨(H1.keep k1 hrb).keep k2 (by omega), o1.below k2 (fun k hk => by simp [Value.ownBlock] at hk; omega), fun k hk => by simp [Value.ownBlock] at hk; omega, o2, by omega, by simp, (hb1.trans (k1.mono hb1.size)).trans (k2.mono (by have := hb1.size; omega)), hge⟩
  generalize hT : w1.heap.size + 1 = T at *
  obtain ⟨W, hW⟩ : ∃ W, W = (w1.alloc (.cells #[] 3)).alloc (.cells #[] 3) := ⟨_, rfl⟩
  rw [← hW] at S1
  clear H1
  go_wp2_with fail
  rw [← hW]
  refine (pick_any _ _ _ _ _ _ _ S1.rd (by omega) (by omega)).mono ?_
  rintro e2 w2 ⟨x2, m2, rfl, a2, b2, -, rfl⟩
  have b2 := b2 (by omega)
  have S2 := S1.read m2
  obtain ⟨k2, rfl⟩ : ∃ k : Nat, x2 = k := ⟨x2.toNat, by omega⟩
  generalize readOn W rb 0 m2 = v2 at *
  clear S1 hW hb1
  go_wp2_with fail
  go_loopw [5, 7] (fun v t wr => ∃ (A : Option Addr) (c k q : Nat) (xs : List Int), t = .int .i64 (k : Nat) ∧ v = .slice A xs.length c ∧ xs.length + k ≤ 5 ∧ q + k ≤ 10 ∧ small xs ∧ Two1 w wr rb T B l1 c1 q (.slice A xs.length c) xs) (fun _ t _ => (intOf t).toNat)
  case atStart => exact ⟨some ⟨w1.heap.size, 0, none⟩, 0, k2, 1, [], rfl, rfl, by simp; omega, by omega, by intro x hx; simp at hx, S2⟩
  case round =>
    clear S2
    obtain ⟨A2, c2, k, q, xs, rfl, rfl, hxk, hqk, hsm, S⟩ := hrel
    by_cases hlt : 0 < k
    · go_wp2_with fail
      refine (pick_any _ _ _ _ _ _ _ S.rd (by omega) (by omega)).mono ?_
      rintro e3 w3 ⟨x3, m3, rfl, a3, b3, -, rfl⟩
      have b3 := b3 (by omega)
      have S3 := S.read m3
      have hsm3 := small_snoc hsm a3 b3
      generalize readOn wr rb q m3 = v3 at *
      clear S
      have HO := Lib.hid S3.own
      have hsz := S3.size
      have hrt := S3.lt
      go_wp2_with (at_builtin; (refine wpList_append_lies _ rfl (.tmp 19) (.tmp 22) 28 rfl (rb + 1) 3 i0 _ 1 8 Try.underlying28 hi0 hz0 hz1 hz2 rfl (by omega) (.slice A2 xs.length c2) xs.length (ints xs) rfl (World.ownsRow.alloc HO.out _) ⟨v3.heap.size, 0, none⟩ 1 1 [.int .i64 x3] rfl rfl (World.news_of_block (cs := #[.int .i64 x3]) (t := 3) (fr := (0, 0)) (heap_alloc_new _ _)) (by simp [Value.oneCell']) (by omega) (by simp [maxLen]; omega) (by omega) (by simp; omega) _ rfl ?_); intro gg cc w5 hown5 hgrow hat hlt5)
      have O5 : OwnI w5 (rb + 1) (.slice (some ⟨gg, 0, none⟩) (xs.length + 1) cc) (xs ++ [x3]) := by
        unfold OwnI; rw [ints_append, List.length_append]; exact hown5
      have S5 := S3.append (grown_box hgrow) O5 (by rcases hat with e | e; exact .inl e; exact .inr (by rw [e]; simp))
      have hln : (xs ++ [x3]).length = xs.length + 1 := by simp
      go_roundw
      case rel => exact ⟨some ⟨gg, 0, none⟩, cc, k - 1, q + 1, xs ++ [x3], by go_num, by rw [hln], by rw [hln]; omega, by omega, hsm3, by rw [hln]; exact S5⟩
      case measure => simp [intOf]; omega
    · obtain rfl : k = 0 := by omega
      have T1 : Two2 w wr rb T wr.heap.size B l1 c1 q (.slice A2 xs.length c2) xs (.slice (some ⟨T, 0, none⟩) 0 0) [] :=
        ⟨S.rd, S.own, fun j hj => ⟨S.far j hj, S.own.lt j hj⟩, S.emp, fun j hj => by simp [Value.ownBlock] at hj; omega, S.lt, S.size, Nat.le_refl _, S.bel, S.ge⟩
      generalize wr.heap.size = K at *
      go_wp2_with fail
      refine (pick_any _ _ _ _ _ _ _ T1.rd (by omega) (by omega)).mono ?_
      rintro e3 w3 ⟨x3, m3, rfl, a3, b3, -, rfl⟩
      have b3 := b3 (by omega)
      have T2 := T1.read m3
      obtain ⟨k3, rfl⟩ : ∃ k : Nat, x3 = k := ⟨x3.toNat, by omega⟩
      generalize readOn wr rb q m3 = v3 at *
      clear T1 S
      have w13 : IntKind.i64.wrap (1 + (k3 : Int)) = ((1 + k3 : Nat) : Int) := by rw [IntWalk.i64_in _ (by omega)]; omega
      go_wp2_with fail
      go_loopw [6, 8] (fun v t wr => ∃ (A : Option Addr) (c k q : Nat) (ys : List Int), t = .int .i64 (k : Nat) ∧ v = .slice A ys.length c ∧ ys.length + k ≤ 5 ∧ q + k ≤ 20 ∧ small ys ∧ Two2 w wr rb T K B l1 c1 q (.slice A2 xs.length c2) xs (.slice A ys.length c) ys) (fun _ t _ => (intOf t).toNat)
      case atStart => exact ⟨some ⟨T, 0, none⟩, 0, 1 + k3, q + 1, [], rfl, rfl, by simp; omega, by omega, by intro x hx; simp at hx, T2⟩
      case round =>
        clear T2
        obtain ⟨A4, c4, k, q', ys, rfl, rfl, hyk, hqk', hsm', S⟩ := hrel
        by_cases hlt : 0 < k
        · go_wp2_with fail
          refine (pick_any _ _ _ _ _ _ _ S.rd (by omega) (by omega)).mono ?_
          rintro e4 w4 ⟨x4, m4, rfl, a4, b4, -, rfl⟩
          have b4 := b4 (by omega)
          have S3 := S.read m4
          have hsm3 := small_snoc hsm' a4 b4
          generalize readOn wr rb q' m4 = v4 at *
          clear S
          have HO := Lib.hid S3.own2
          have hsz := S3.size
          have hrt := S3.lt
          go_wp2_with (at_builtin; (refine wpList_append_lies _ rfl (.tmp 31) (.tmp 34) 28 rfl (rb + 1) 3 i0 _ 1 8 Try.underlying28 hi0 hz0 hz1 hz2 rfl (by omega) (.slice A4 ys.length c4) ys.length (ints ys) rfl (World.ownsRow.alloc HO.out _) ⟨v4.heap.size, 0, none⟩ 1 1 [.int .i64 x4] rfl rfl (World.news_of_block (cs := #[.int .i64 x4]) (t := 3) (fr := (0, 0)) (heap_alloc_new _ _)) (by simp [Value.oneCell']) (by omega) (by simp [maxLen]; omega) (by omega) (by simp; omega) _ rfl ?_); intro gg cc w5 hown5 hgrow hat hlt5)
          have O5 : OwnI w5 (rb + 1) (.slice (some ⟨gg, 0, none⟩) (ys.length + 1) cc) (ys ++ [x4]) := by
            unfold OwnI; rw [ints_append, List.length_append]; exact hown5
          have S5 := S3.append (grown_box hgrow) O5 (by rcases hat with e | e; exact .inl e; exact .inr (by rw [e]; simp))
          have hln : (ys ++ [x4]).length = ys.length + 1 := by simp
          go_roundw
          case rel => exact ⟨some ⟨gg, 0, none⟩, cc, k - 1, q' + 1, ys ++ [x4], by go_num, by rw [hln], by rw [hln]; omega, by omega, hsm3, by rw [hln]; exact S5⟩
          case measure => simp [intOf]; omega
        · obtain rfl : k = 0 := by omega
          go_wp2_with fail
          refine (odd_any _ _ _ _ _ _ _ S.rd (by omega) (by omega) (by omega)).mono ?_
          rintro e4 w4 ⟨b, m4, rfl, rfl⟩
          have S3 := S.read m4
          generalize readOn wr rb q' m4 = v4 at *
          clear S
          have g1 := S3.ge
          cases b with
          | false =>
            go_wp2_with fail
            refine bodyPost_ret (v := .tuple #[.slice A2 xs.length c2, .slice A4 ys.length c4]) (by simp [results, Try.results40, go_sem, *]) rfl ?_
            exact ⟨A2, c2, xs, A4, c4, ys, rfl, S3.own.more (by omega), S3.own2.more (by omega), hsm, hsm', by omega, by omega, S3.bel⟩
          | true =>
            go_wp2_with (at_make; refine wpList_make_full _ rfl _ _ 28 rfl (rb + 1) 3 i0 _ 1 Try.underlying28 hi0 hz0 hz1 .i64 .i64 31 31 31 rfl rfl rfl rfl (by rw [hz2]; omega) (by simp [maxLen]) (by have := S3.rd.lt; omega) ?_; intro w5 hown5 hg5)
            have O5 : OwnI w5 (rb + 1) (.slice (some ⟨v4.heap.size, 0, none⟩) 31 31) (List.replicate 31 0) := by
              unfold OwnI; rw [List.length_replicate, ← madeCells_ints]; exact hown5
            have B5 : Below v4.heap.size v4 w5 := (Below.refl _ _).grown hg5 (Nat.le_refl _) (by simp)
            refine bodyPost_ret (v := .tuple #[.slice A2 xs.length c2, .slice (some ⟨v4.heap.size, 0, none⟩) 31 31]) (by simp [results, Try.results40, go_sem, *]) rfl ?_
            exact ⟨A2, c2, xs, some ⟨v4.heap.size, 0, none⟩, 31, List.replicate 31 0, rfl, (S3.own.below B5 S3.own.lt).more (by omega), O5.more (by omega), hsm, small_zero 31, by omega, by simp, S3.bel.trans (B5.mono S3.bel.size)⟩
end Go.Proofs.Ytikmkdonbfngeaa
