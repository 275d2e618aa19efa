/- The draws of a net with two nodes; of a net alone with few edges; of two numbers; of two rows. -/
import Derived.Test.YtmdmmebekicpkaaDraws
import Derived.Test.YtmdmmebekicpkaaRow
namespace Go.Proofs.Ytmdmmebekicpkaa
open Go.RowKit
set_option maxRecDepth 100000

def DrawnTerm (w : World) (rb : Nat) (B : Option Addr) (l cap : Nat) (e : Ending) (w' : World) : Prop :=
  ∃ (n : Int) (A : Option Addr) (c : Nat) (es : List (Int × Int)) (a b : Int) (q : Nat), e = .returned (.tuple #[.agg #[.int .i64 n, .slice A es.length c], .int .i64 a, .int .i64 b]) ∧ OwnE w' w.heap.size (.slice A es.length c) es ∧
    1 ≤ n ∧ n ≤ 7 ∧ es.length ≤ 20 ∧ 1 ≤ a ∧ a ≤ 20 ∧ 1 ≤ b ∧ b ≤ 20 ∧ Rd w' rb B l cap q ∧ w.grownBy w' (some rb)
def DrawnTermQ (w : World) (rb : Nat) (B : Option Addr) (l cap : Nat) (e : Ending) (w' : World) : Prop :=
  ∃ (n : Int) (A : Option Addr) (c : Nat) (es : List (Int × Int)) (a b : Int) (q : Nat), e = .returned (.tuple #[.agg #[.int .i64 n, .slice A es.length c], .int .i64 a, .int .i64 b]) ∧ OwnE w' w.heap.size (.slice A es.length c) es ∧
    1 ≤ n ∧ n ≤ 7 ∧ es.length ≤ 20 ∧ 1 ≤ a ∧ a ≤ 20 ∧ 1 ≤ b ∧ b ≤ 20 ∧ Rd w' rb B l cap q ∧ w.grownBy w' (some rb) ∧ q ≤ 900000
theorem DrawnTermQ.plain {w w' : World} {rb : Nat} {B : Option Addr} {l cap : Nat} {e : Ending} (h : DrawnTermQ w rb B l cap e w') : DrawnTerm w rb B l cap e w' := by
  obtain ⟨n, A, c, es, a, b, q, h1, h2, h3, h4, h5, h6, h7, h8, h9, h10, h11, _⟩ := h
  exact ⟨n, A, c, es, a, b, q, h1, h2, h3, h4, h5, h6, h7, h8, h9, h10, h11⟩
theorem NetBox2.term {w wr : World} {rb tb nb : Nat} {n : Int} {A : Option Addr} {c : Nat} {es : List (Int × Int)} (h : NetBox2 w wr rb tb nb n A c es) {B : Option Addr} {l cap q : Nat} {a b : Int} (hr : Rd wr rb B l cap q) (h1 : 1 ≤ n) (h7 : n ≤ 7) (hle : es.length ≤ 20)
    (a1 : 1 ≤ a) (a2 : a ≤ 20) (b1 : 1 ≤ b) (b2 : b ≤ 20) (hq : q ≤ 900000) :
    DrawnTermQ w rb B l cap (.returned (.tuple #[.agg #[.int .i64 n, .slice A es.length c], .int .i64 a, .int .i64 b])) ((wr.setCell ⟨tb, 0, none⟩ (.int .i64 n)).setCell ⟨tb, 1, none⟩ (.slice A es.length c)) := by
  have o1 := h.o1
  have o2 := h.o2
  have o3 := h.o3
  refine ⟨n, A, c, es, a, b, q, rfl, ((h.own.more (by omega)).far ?_ _).far ?_ _, h1, h7, hle, a1, a2, b1, b2, ?_, ?_, hq⟩
  · intro k hk; have := (World.ownsRow.lt h.own k hk).1; simp; omega
  · intro k hk; have := (World.ownsRow.lt h.own k hk).1; simp; omega
  · exact hr.keep (((Below.refl tb wr).setCell (by simp) _).setCell (by simp) _) o1
  · exact grown_below h.gr (((Below.refl tb wr).setCell (by simp) _).setCell (by simp) _) o3

set_option maxHeartbeats 4000000 in
theorem l20Terminals_q (rb : Nat) (B : Option Addr) (l cap p : Nat) (w : World) (h : Rd w rb B l cap p) (hp : p ≤ 800000) :
    Calls Try.prog 91 #[.pointer (some ⟨rb, 0, none⟩)] w (DrawnTermQ w rb B l cap) := by
  have hrb := h.lt
  have H1 := h.keep ((Below.refl w.heap.size w).alloc (Nat.le_refl _) (.cells #[.int .i64 0, .slice none 0 0] 53)) hrb
  go_enter Try.func91, Try.ntmps91
  go_wp2_with fail
  refine (l20Net_any _ _ _ _ _ _ _ H1 (by omega) (by omega) (by omega)).mono ?_
  rintro e1 w1 ⟨n, A, c, es, q, rfl, own, n1, n7, hle, H2, hq, hg⟩
  have NB := NetBox2.start (n := n) (t' := 53) hrb own hg
  have H3 := H2.keep ((Below.refl w1.heap.size w1).alloc (Nat.le_refl _) (.cells #[.int .i64 n, .slice A es.length c] 53)) H2.lt
  clear H1 H2 own hg
  obtain ⟨c0, c1, r0, r1, g0, g1, _, _, o1, o2, o3, o4⟩ := id NB
  have hmx : (if n < 1 then (1 : Int) else n) = n := if_neg (by omega)
  go_wp2_with fail
  obtain ⟨W, hW⟩ : ∃ W, W = w1.alloc (.cells #[.int .i64 n, .slice A es.length c] 53) := ⟨_, rfl⟩
  clear c0 c1 r0 r1 g0 g1 o1 o2 o3 o4
  rw [← hW] at NB H3 ⊢
  clear hW
  generalize hnb : w1.heap.size = nb at *
  generalize hT : w.heap.size = T at *
  clear hnb hT
  refine (pick_any _ _ _ _ _ n _ H3 (by omega) (by omega)).mono ?_
  rintro e5 w5 ⟨x5, m5, rfl, a5, b5, -, rfl⟩
  have b5 := b5 (by omega)
  have wx5 : IntKind.i64.wrap (1 + x5) = 1 + x5 := IntWalk.i64_in _ (by omega)
  have NB := NB.readOn q m5
  have H3 := H3.next m5
  generalize readOn W rb q m5 = W at *
  obtain ⟨c0, c1, r0, r1, g0, g1, _, _, o1, o2, o3, o4⟩ := id NB
  have hn0 : (n == 0) = false := by simp; omega
  have hnm : (n == -1) = false := by simp; omega
  have hn1 : ¬ n = 0 := by omega
  go_wp2_with fail
  have c0' := NB.drew.n0
  have c1' := NB.drew.n1
  have hTn : T ≠ nb := by omega
  go_region_held3 (fun w' => w'.cell? ⟨nb, 0, none⟩ = some (.int .i64 n) ∧ w'.cell? ⟨nb, 1, none⟩ = some (.slice A es.length c)) (first | go_keep) (first
    | (go_simp; go_at_call 56; (with_reducible refine (pick_any _ _ _ _ _ (40 : Int) _ (H3.drew.next m6) (by omega) (by omega)).mono ?_); rintro e7 w7 ⟨x7, m7, rfl, a7, b7, -, rfl⟩; have b7 := b7 (by omega); have NC := (NB.drew.readOn (q + 1) m6).readOn (q + 1 + 1) m7; have H5 := (H3.drew.next m6).next m7; have wt7 : x7.tdiv 39 = x7 / 39 := Int.tdiv_eq_ediv_of_nonneg a7; have wu7 : IntKind.i64.wrap (x7 / 39) = x7 / 39 := IntWalk.i64_in _ (by omega); have wv7 : IntKind.i64.wrap (x7 / 39 * 6) = x7 / 39 * 6 := IntWalk.i64_in _ (by omega); have ws7 : IntKind.i64.wrap (1 + Z + x7 / 39 * 6) = 1 + Z + x7 / 39 * 6 := IntWalk.i64_in _ (by omega); have d0 := NC.n0; have d1 := NC.n1; have d2 := NC.r0; have d3 := NC.r1; have d4 := NC.g0; have d5 := NC.g1)
    | (go_simp; go_at_call 56; (with_reducible refine (pick_any _ _ _ _ _ n _ H3.drew (by omega) (by omega)).mono ?_); rintro e6 w6 ⟨x6, m6, rfl, a6, b6, -, rfl⟩; have b6 := b6 (by omega); have wx6 : IntKind.i64.wrap (1 + x5 + x6) = 1 + x5 + x6 := IntWalk.i64_in _ (by omega); obtain ⟨Z, hZ, z0, z1⟩ : ∃ Z : Int, (1 + x5 + x6).tmod n = Z ∧ 0 ≤ Z ∧ Z < n := ⟨_, rfl, Int.tmod_nonneg _ (by omega), Int.tmod_lt_of_pos _ (by omega)⟩; have wz5 : IntKind.i64.wrap Z = Z := IntWalk.i64_in _ (by omega); have wz6 : IntKind.i64.wrap (1 + Z) = 1 + Z := IntWalk.i64_in _ (by omega); have NE := NB.drew.readOn (q + 1) m6; have u0 := NE.n0; have u1 := NE.n1))
  all_goals
    go_wp2_with fail
    refine bodyPost_ret (v := .tuple #[.agg #[.int .i64 n, .slice A es.length c], .int .i64 (1 + x5), .int .i64 (1 + Z + x7 / 39 * 6)]) (by simp [results, Try.results91, go_sem, *]) rfl ?_
    exact NC.term H5 (by omega) (by omega) (by omega) (by omega) (by omega) (by omega) (by omega) (by omega)

theorem l20Terminals_any (rb : Nat) (B : Option Addr) (l cap p : Nat) (w : World) (h : Rd w rb B l cap p) (hp : p ≤ 800000) :
    Calls Try.prog 91 #[.pointer (some ⟨rb, 0, none⟩)] w (DrawnTerm w rb B l cap) := (l20Terminals_q rb B l cap p w h hp).mono fun _ _ => DrawnTermQ.plain

def GotTerm (w : World) (e : Ending) (w' : World) : Prop :=
  ∃ (n : Int) (A : Option Addr) (c : Nat) (es : List (Int × Int)) (a b : Int), e = .returned (.tuple #[.agg #[.int .i64 n, .slice A es.length c], .int .i64 a, .int .i64 b]) ∧ OwnE w' w.heap.size (.slice A es.length c) es ∧ 1 ≤ n ∧ n ≤ 7 ∧ es.length ≤ 20 ∧ 1 ≤ a ∧ a ≤ 20 ∧ 1 ≤ b ∧ b ≤ 20 ∧ Below w.heap.size w w'

end Go.Proofs.Ytmdmmebekicpkaa
