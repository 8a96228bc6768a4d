/- What was done to whom, as an argument. No condition. (Merged of 2 texts.) -/
import Derived.Test.YtjpjdkdbgjipnaaGreatDoorU15
import Derived.Test.YtjpjdkdbgjipnaaGreatDoorU14
import Derived.Test.YtjpjdkdbgjipnaaGreatDoorU45
import Derived.Test.YtjpjdkdbgjipnaaGreatDoorU16
import Derived.Test.YtjpjdkdbgjipnaaGreatDoorU46
namespace Go.Proofs.YtjpjdkdbgjipnaaGreatDoor
open Go.RowKit Go.Deep
def Told (r : List CompV × Nat) (w : World) (e : Ending) (w' : World) : Prop :=
 (∃ A c, e = .returned (.tuple #[.slice A r.1.length c, .int .i64 (r.2 : Int)]) ∧ w'.ownsRow w.heap.size 60 3 (.slice A r.1.length c) r.1.length (r.1.flatMap yy2)) ∧ Held1 r.1 ∧ Below w.heap.size w w'
theorem yy416 {e : Ending} {w w' : World} {q : Nat} (h : e = .returned (.tuple #[.slice none 0 0, .int .i64 (q : Int)])) (hb : Below w.heap.size w w') : Told ([], q) w e w' :=
 ⟨⟨none, 0, h, World.ownsRow_nil _ _ _ _⟩, yy172, hb⟩
theorem yy228 (A : Option Addr) (ca : Nat) (a : List CompV) (B : Option Addr) (cb : Nat) (b : List CompV) (hla : a.length ≤ maxLen) (hlb : b.length ≤ maxLen) (hfa : Fine1 a) (hfb : Fine1 b) (f : Bool) (w : World) (hA : yy8 w A a) (hB : yy8 w B b) :
  Calls Tryz.prog 29 #[.slice A a.length ca, .slice B b.length cb, .bool f] w fun e w' => Told (rOver f a b) w e w' := by
 refine (yy450 A ca a B cb b hla hlb hfa hfb f w hA hB).mono ?_
 rintro e w' ⟨⟨h1, rfl⟩ | ⟨h1, h2, rfl⟩ | ⟨h1, h2, h3, rfl⟩ | ⟨h1, h2, h3, o, ho, hs, hl, A', c', rfl, hown⟩, hb⟩
 ·rw [rOver, if_pos h1]; exact yy416 rfl hb
 ·rw [rOver, if_neg (by omega), if_pos h2]; exact yy416 rfl hb
 ·rw [rOver, if_neg (by omega), if_neg (by omega), if_pos h3]; exact yy416 rfl hb
 ·rw [yy201 h1 h2 h3 ho]
  exact ⟨⟨A', c', rfl, hown⟩, (yy650 h1 h2 h3 ho hs hl).1, hb⟩
end Go.Proofs.YtjpjdkdbgjipnaaGreatDoor
namespace Go.Proofs.YtjpjdkdbgjipnaaGreatDoor
open Go.ChangeShapes Go.WideShapes Go.ChangeAt Go.RowKit
variable {H : Type} {enc : TypeId × Value → H} {w : World}
set_option maxRecDepth 100000 in
theorem yy631 {base : Nat} {v : Value} {d : DataW H} {p : List MemPlace} (hv : Value.okWide Tryz.prog w .any base 23 v) (h : DataW.Trod enc Tryz.prog w 0 (fun _ => true) true 23 v d p) (hlt : ∀ x ∈ p, x.block < w.heap.size) :
  ∃ A l c, v = .slice A (List.length l) c ∧ OnesAt w A l ∧ (∀ y ∈ l, y.Good) ∧ l.length ≤ c ∧ c ≤ maxLen := by
 obtain ⟨a0, len, cap, rfl⟩ := okWide_slice Tryz.underlying23 hv
 obtain ⟨fuel, hf⟩ := h
 obtain ⟨A, l, c, e, h1⟩ := yy237 hf hlt
 simp only [Value.cells, List.cons.injEq, and_true] at e
 exact ⟨A, l, c, e, h1⟩
end Go.Proofs.YtjpjdkdbgjipnaaGreatDoor
