/- The landed tree: all its nodes, the place of an ID among them by halving. Conditions: nodes by rising ID, no more than 2^40. (Merged of 5 texts.) -/
import Derived.Test.YtjpjdkdbgjipnaaDoorV0
import Derived.Lib.SlicesCompact
import Derived.Test.YtjpjdkdbgjipnaaDoorV47
import Derived.Test.YtjpjdkdbgjipnaaDoorV43
import Derived.Test.YtjpjdkdbgjipnaaDoorV40
import Derived.BigRegion
import Derived.Test.YtjpjdkdbgjipnaaDoorV44
import Derived.Deep.OwnRows
import Derived.Test.YtjpjdkdbgjipnaaDoorV13
namespace Go.Proofs.YtjpjdkdbgjipnaaDoor
open Go.Lib
def tAt (x : Int) (out : List Int) : Nat → Nat
 | 0 => 0
 | k + 1 => if x < out[k]?.getD 0 then tAt x out k else k + 1
theorem tAt_le (x : Int) (out : List Int) : ∀ k, tAt x out k ≤ k
 | 0 => Nat.le_refl _
 | k + 1 => by
  rw [tAt]
  split
  ·exact Nat.le_succ_of_le (tAt_le x out k)
  ·exact Nat.le_refl _
theorem yy726 {x : Int} {out : List Int} {k : Nat} (hk : k < out.length) (h : x < out[k]) : tAt x out (k + 1) = tAt x out k := by
 rw [tAt, List.getElem?_eq_getElem hk, Option.getD_some, if_pos h]
theorem tAt_no {x : Int} {out : List Int} {k : Nat} (hk : k < out.length) (h : ¬ x < out[k]) : tAt x out (k + 1) = k + 1 := by
 rw [tAt, List.getElem?_eq_getElem hk, Option.getD_some, if_neg h]
def tPut (out : List Int) (x : Int) : List Int :=
 if 0 < tAt x out out.length ∧ out[tAt x out out.length - 1]? = some x then out else (out.take (tAt x out out.length) ++ [x]) ++ out.drop (tAt x out out.length)
theorem yy669 (out : List Int) (x : Int) : (tPut out x).length ≤ out.length + 1 := by
 unfold tPut
 split
 ·omega
 ·simp
  omega
theorem yy412 (xs : List Int) : ∀ out : List Int, (xs.foldl tPut out).length ≤ out.length + xs.length := by
 induction xs with
 | nil => intro out; simp
 | cons x xs ih =>
  intro out
  have h1 := ih (tPut out x)
  have h2 := yy669 out x
  rw [List.foldl_cons, List.length_cons]
  omega
def Rise (l : List Int) : Prop := l.Pairwise (· < ·)
theorem yy479 {x : Int} {out : List Int} : ∀ {k : Nat}, k ≤ out.length → (∀ (i : Nat) (h : i < out.length), tAt x out k ≤ i → i < k → x < out[i]) ∧ (0 < tAt x out k → ∃ h2 : tAt x out k - 1 < out.length, ¬ x < out[tAt x out k - 1])
 | 0, _ => ⟨fun i h h1 h2 => absurd h2 (by omega), fun h => absurd h (by simp [tAt])⟩
 | k + 1, hk => by
  have hk' : k < out.length := by omega
  by_cases hx : x < out[k]
  ·rw [yy726 hk' hx]
   obtain ⟨g1, g2⟩ := yy479 (x := x) (out := out) (k := k) (by omega)
   refine ⟨fun i h h1 h2 => ?_, g2⟩
   by_cases e : i = k
   ·subst e; exact hx
   ·exact g1 i h h1 (by omega)
  ·rw [tAt_no hk' hx]
   exact ⟨fun i h h1 h2 => absurd h2 (by omega), fun _ => ⟨show k + 1 - 1 < out.length from hk', by simpa using hx⟩⟩
theorem yy670 {out : List Int} {x y : Int} : y ∈ tPut out x ↔ y = x ∨ y ∈ out := by
 unfold tPut
 split
 ·rename_i h
  have hx : x ∈ out := List.mem_of_getElem? h.2
  exact ⟨.inr, fun g => g.elim (fun e => by rw [e]; exact hx) id⟩
 ·rw [List.mem_append, List.mem_append, List.mem_singleton]
  have e := List.take_append_drop (tAt x out out.length) out
  constructor
  ·rintro ((g | g) | g)
   ·exact .inr (List.mem_of_mem_take g)
   ·exact .inl g
   ·exact .inr (List.mem_of_mem_drop g)
  ·rintro (g | g)
   ·exact .inl (.inr g)
   ·rw [← e] at g
    rcases List.mem_append.1 g with g | g
    ·exact .inl (.inl g)
    ·exact .inr g
theorem yy559 {out : List Int} {x : Int} (h : Rise out) : Rise (tPut out x) := by
 unfold tPut
 split
 ·exact h
 ·rename_i hn
  obtain ⟨s1, s2⟩ := yy479 (x := x) (out := out) (Nat.le_refl out.length)
  have hq := tAt_le x out out.length
  generalize tAt x out out.length = q at hn s1 s2 hq
  unfold Rise at h ⊢
  have e := List.take_append_drop q out
  rw [← e, List.pairwise_append] at h
  obtain ⟨p1, p2, p3⟩ := h
  have lo : ∀ y ∈ out.take q, y < x := by
   intro y hy
   have hq0 : 0 < q := by
    rcases Nat.eq_zero_or_pos q with e0 | e0
    ·rw [e0] at hy; simp at hy
    ·exact e0
   obtain ⟨h2, h3⟩ := s2 hq0
   have hne : out[q - 1] ≠ x := fun e => hn ⟨hq0, by rw [List.getElem?_eq_getElem h2, e]⟩
   have hlast : out[q - 1] < x := by omega
   obtain ⟨i, hi, e2⟩ := List.getElem_of_mem hy
   rw [List.length_take] at hi
   rw [List.getElem_take] at e2
   by_cases hi2 : i = q - 1
   ·subst hi2; rw [← e2]; exact hlast
   ·have hp := List.pairwise_iff_getElem.1 p1 i (q - 1) (by rw [List.length_take]; omega) (by rw [List.length_take]; omega) (by omega)
    rw [List.getElem_take, List.getElem_take, e2] at hp
    omega
  have hi : ∀ y ∈ out.drop q, x < y := by
   intro y hy
   obtain ⟨i, hi, e2⟩ := List.getElem_of_mem hy
   rw [List.length_drop] at hi
   rw [List.getElem_drop] at e2
   rw [← e2]
   exact s1 (q + i) (by omega) (by omega) (by omega)
  rw [List.pairwise_append, List.pairwise_append]
  refine ⟨⟨p1, by simp, fun a ha b hb => by rw [List.mem_singleton.1 hb]; exact lo a ha⟩, p2, fun a ha b hb => ?_⟩
  rcases List.mem_append.1 ha with g | g
  ·exact p3 a g b hb
  ·rw [List.mem_singleton.1 g]; exact hi b hb
theorem yy560 (xs : List Int) : ∀ {out : List Int}, Rise out → Rise (xs.foldl tPut out) := by
 induction xs with
 | nil => intro out h; exact h
 | cons x xs ih => intro out h; exact ih (yy559 h)
theorem yy671 (xs : List Int) : ∀ {out : List Int} {y : Int}, y ∈ xs.foldl tPut out ↔ y ∈ xs ∨ y ∈ out := by
 induction xs with
 | nil => intro out y; simp
 | cons x xs ih =>
  intro out y
  rw [List.foldl_cons, ih, yy670, List.mem_cons]
  constructor
  ·rintro (g | g | g)
   ·exact .inl (.inr g)
   ·exact .inl (.inl g)
   ·exact .inr g
  ·rintro ((g | g) | g)
   ·exact .inr (.inl g)
   ·exact .inl g
   ·exact .inr (.inr g)
def srt (xs : List Int) : List Int := xs.mergeSort fun x y => decide (x ≤ y)
theorem yy324 : ∀ {a b : List Int}, Rise a → Rise b → (∀ y, y ∈ a ↔ y ∈ b) → a = b
 | [], [], _, _, _ => rfl
 | [], y :: b, _, _, h => by have := (h y).2 (List.mem_cons_self ..); cases this
 | x :: a, [], _, _, h => by have := (h x).1 (List.mem_cons_self ..); cases this
 | x :: a, y :: b, h1, h2, h => by
  have g1 := List.pairwise_cons.1 h1
  have g2 := List.pairwise_cons.1 h2
  have e : x = y := by
   have k1 := (h x).1 (List.mem_cons_self ..)
   have k2 := (h y).2 (List.mem_cons_self ..)
   rcases List.mem_cons.1 k1 with e | k1
   ·exact e
   ·rcases List.mem_cons.1 k2 with e | k2
    ·exact e.symm
    ·have := g1.1 y k2
     have := g2.1 x k1
     omega
  subst e
  rw [yy324 g1.2 g2.2 fun z => ?_]
  constructor
  ·intro hz
   rcases List.mem_cons.1 ((h z).1 (List.mem_cons_of_mem _ hz)) with e | k
   ·have := g1.1 z hz
    omega
   ·exact k
  ·intro hz
   rcases List.mem_cons.1 ((h z).2 (List.mem_cons_of_mem _ hz)) with e | k
   ·have := g2.1 z hz
    omega
   ·exact k
end Go.Proofs.YtjpjdkdbgjipnaaDoor
namespace Go.Proofs.YtjpjdkdbgjipnaaDoor
def oneZ (i : Int) : OneK := ⟨i, [], false, false, false, false, 0, []⟩
def yy70 (x : OneK) (a : ActV) : OneK :=
 if a.id ≠ x.id then x else if a.kind = 1 then { x with created := true, parent := a.parent, name := a.name } else if a.kind = 2 then { x with removed := true } else
  if a.kind = 3 then { x with moved := true, parent := a.parent, name := a.name } else if a.kind = 4 then { x with edited := true, ops := a.ops } else x
def effOne (l : List ActV) (i : Int) : OneK := l.foldl yy70 (oneZ i)
def effIds (l : List ActV) : List Int := (l.map fun a => a.id).foldl tPut []
def eff (l : List ActV) : List OneK := (effIds l).map (effOne l)
open Classical in
noncomputable def yy74 (x : OneK) (a : ActV) : OneK := if (a.kind = 4 ∧ a.id = x.id) ∧ x.ops ≠ [] ∧ (rOver true x.ops a.ops).2 = 0 then { x with ops := (rOver true x.ops a.ops).1 } else x
noncomputable def yy277 (acts : List ActV) (x : OneK) : OneK := acts.foldl yy74 x
noncomputable def overK (l : List OneK) (acts : List ActV) : List OneK := l.map (yy277 acts)
theorem yy71 (x : OneK) (a : ActV) : (yy70 x a).id = x.id := by
 unfold yy70
 split
 ·rfl
 split
 ·rfl
 split
 ·rfl
 split
 ·rfl
 split <;> rfl
theorem yy76 (l : List ActV) (a : ActV) (i : Int) : effOne (l ++ [a]) i = yy70 (effOne l i) a := by
 unfold effOne
 rw [List.foldl_append]
 rfl
theorem yy375 (l : List ActV) (i : Int) : (effOne l i).id = i := by
 have h : ∀ (l : List ActV) (x : OneK), (l.foldl yy70 x).id = x.id := by
  intro l
  induction l with
  | nil => intro x; rfl
  | cons a l ih => intro x; rw [List.foldl_cons, ih, yy71]
 exact h l _
theorem yy115 (l : List ActV) : Rise (effIds l) := yy560 _ List.Pairwise.nil
theorem yy80 {l : List ActV} {i : Int} : i ∈ effIds l ↔ ∃ a ∈ l, a.id = i := by
 unfold effIds
 rw [yy671]
 simp
theorem yy480 (l : List ActV) : (effIds l).length ≤ l.length := by
 have h := yy412 (l.map fun a => a.id) []
 simpa [effIds] using h
theorem yy413 (x : OneK) : yy277 [] x = x := rfl
theorem yy562 (l : List OneK) : overK l [] = l := by
 unfold overK
 have : yy277 [] = id := funext yy413
 rw [this, List.map_id]
theorem yy278 (x : OneK) (a : ActV) : (yy74 x a).id = x.id ∧ (yy74 x a).edited = x.edited ∧ (yy74 x a).removed = x.removed ∧ (yy74 x a).created = x.created ∧ (yy74 x a).moved = x.moved ∧ (yy74 x a).parent = x.parent ∧ (yy74 x a).name = x.name := by
 unfold yy74
 split
 ·exact ⟨rfl, rfl, rfl, rfl, rfl, rfl, rfl⟩
 ·exact ⟨rfl, rfl, rfl, rfl, rfl, rfl, rfl⟩
end Go.Proofs.YtjpjdkdbgjipnaaDoor
namespace Go.Proofs.YtjpjdkdbgjipnaaDoor
open Go.RowKit Go.Deep
end Go.Proofs.YtjpjdkdbgjipnaaDoor
