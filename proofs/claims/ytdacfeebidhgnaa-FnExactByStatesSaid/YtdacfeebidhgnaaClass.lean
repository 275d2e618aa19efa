/- A region that draws its order, whose operations read, and whose callees make memory but turn nothing that a class of worlds knows: one walk in the text's order. -/
import Derived.Test.YtdacfeebidhgnaaEd
import Derived.Deep.QuietTactic
import Derived.BigQuiet
namespace Go.Proofs.Ytdacfeebidhgnaa
open Go.RowKit
set_option maxRecDepth 100000

/-- The class D, as all values of a function f. -/
theorem wp_region_class {P : Program} {id : Nat} {Q : Exit → Act → World → Prop} {a : Act} {w : World} {l : List Oper} (D : World → Prop) (hm : P.follows .mixedOrders = true) (hB : Region.lexB .any l.toArray = true) (hD : D w.drew)
    (h : ∀ (X : Type) (_ : Nonempty X) (f : X → World), (∀ x, D (f x)) → (∀ u, D u → ∃ x, u = f x) → wpQuiet P l.toArray (fun w' => ∃ x, w' = f x) (fun a' => ∀ w', (∃ x, w' = f x) → Q .normal a' w') l a) : (Code.region id l.toArray true).wp P Q a w :=
  wp_region_quiet (C := fun w' => ∃ x : {u // D u}, w' = x.1) hm hB ⟨⟨_, hD⟩, rfl⟩ (by simpa using h {u // D u} ⟨⟨_, hD⟩⟩ (fun x => x.1) (fun x => x.2) (fun u hu => ⟨⟨u, hu⟩, rfl⟩))
theorem class_of {P : Program} {D : World → Prop} {X : Type} {f : X → World} {fn : FuncId} {args : Array Value} {x : X} {v : Value} (hex : ∀ u, D u → ∃ x, u = f x) (h : Calls P fn args (f x) fun e w' => e = .returned v ∧ Below (f x).heap.size (f x) w')
    (hD : ∀ w', Below (f x).heap.size (f x) w' → D w') : Calls P fn args (f x) fun e w' => e = .returned v ∧ ∃ y, w' = f y :=
  h.mono fun _ w' ⟨he, hb⟩ => ⟨he, hex w' (hD w' hb)⟩
theorem class_same {P : Program} {X : Type} {f : X → World} {fn : FuncId} {args : Array Value} {x : X} {v : Value} (h : Calls P fn args (f x) fun e w' => e = .returned v ∧ f x = w') :
    Calls P fn args (f x) fun e w' => e = .returned v ∧ ∃ y, w' = f y :=
  h.mono fun _ _ ⟨he, hb⟩ => ⟨he, x, hb.symm⟩
/-- The class of a law's own net is closed under calls that only make memory. -/
theorem ArgNet.on {w u : World} {n : Int} {A : Option Addr} {cap : Nat} {es : List (Int × Int)} (h : ArgNet w u n A cap es) : ∀ w', Below u.heap.size u w' → ArgNet w w' n A cap es := fun _ hb => h.step hb h.lt
end Go.Proofs.Ytdacfeebidhgnaa
