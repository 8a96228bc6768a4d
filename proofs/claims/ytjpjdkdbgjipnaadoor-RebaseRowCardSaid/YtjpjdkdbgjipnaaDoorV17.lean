/- Paths in a tree: a node's is its parent's, with the name behind it. No condition. (Merged of 10 texts.) -/
import Derived.Test.YtjpjdkdbgjipnaaDoorV1
import Derived.Deep.QuietTactic
import Derived.BigQuiet
import Derived.Test.YtjpjdkdbgjipnaaDoorV45
import Derived.Test.YtjpjdkdbgjipnaaDoorV47
import Derived.Test.YtjpjdkdbgjipnaaDoorV44
import Derived.Deep.DeepAppendWide
import Derived.Laws.OwnMore
import Derived.Deep.AppendLies
import Derived.Test.YtjpjdkdbgjipnaaDoorV40
import Derived.Deep.CutRange
import Derived.Deep.CutBlock
import Derived.Test.YtjpjdkdbgjipnaaDoorV5
import Derived.Deep.LoopGhost
import Derived.Test.YtjpjdkdbgjipnaaDoorV43
import Derived.Test.YtjpjdkdbgjipnaaDoorV13
namespace Go.Proofs.YtjpjdkdbgjipnaaDoor
open Go.RowKit Go.Deep
def yy729 (A : Option Addr) (c : Nat) : Option Addr := if c = 0 then A else A.map (·.add (0 * 1))
def strLow (A : Option Addr) (k c : Nat) : Option Addr := if c = k then A else A.map (·.add (k * 1))
attribute [irreducible] yy729 strLow
def clm (l : List NodeV) : Nat → Int → List Nat → Option (Option (List Nat))
 | 0, id, acc => if id = 0 then some (some acc) else none
 | n + 1, id, acc => if id = 0 then some (some acc) else match rFind l id with
  | none => some none
  | some k => clm l n ((l[k]?).getD default).parent (((l[k]?).getD default).name ++ (if acc = [] then [] else 47 :: acc))
attribute [irreducible] clm
end Go.Proofs.YtjpjdkdbgjipnaaDoor
namespace Go.Proofs.YtjpjdkdbgjipnaaDoor
def up (l : List NodeV) (id : Int) : Option Int := (rFind l id).map fun k => ((l[k]?).getD default).parent
theorem yy285 {l : List NodeV} {id : Int} (h : rFind l id = none) : up l id = none := by unfold up; rw [h]; rfl
theorem yy164 {l : List NodeV} {id : Int} {k : Nat} (hk : k < l.length) (h : rFind l id = some k) : up l id = some l[k].parent := by
 unfold up
 rw [h, Option.map_some, List.getElem?_eq_getElem hk]
 rfl
def Ends (P : Int → Option Int) : Nat → Int → Prop
 | 0, id => P id = none
 | n + 1, id => ∀ p, P id = some p → Ends P n p
variable {P Q : Int → Option Int}
theorem Ends.none {n : Nat} {id : Int} (h : P id = .none) : Ends P n id := by
 cases n with
 | zero => exact h
 | succ n => intro p hp; rw [h] at hp; cases hp
theorem Ends.succ : ∀ {n : Nat} {id : Int}, Ends P n id → Ends P (n + 1) id
 | 0, _, h => Ends.none h
 | _ + 1, _, h => fun p hp => (h p hp).succ
theorem Ends.le {n m : Nat} {id : Int} (h : Ends P n id) (hm : n ≤ m) : Ends P m id := by
 induction hm with
 | refl => exact h
 | step _ ih => exact ih.succ
def Dep (P : Int → Option Int) (d : Nat) (id : Int) : Prop := Ends P d id ∧ ∀ n, n < d → ¬ Ends P n id
theorem dep_of : ∀ {n : Nat} {id : Int}, Ends P n id → ∃ d, d ≤ n ∧ Dep P d id
 | 0, _, h => ⟨0, Nat.le_refl _, h, fun n hn => by omega⟩
 | n + 1, id, h => by
  by_cases h1 : Ends P n id
  ·obtain ⟨d, hd, h2⟩ := dep_of h1
   exact ⟨d, by omega, h2⟩
  ·exact ⟨n + 1, Nat.le_refl _, h, fun m hm g => h1 (g.le (by omega))⟩
theorem Dep.fn {i j : Nat} {y : Int} (hi : Dep P i y) (hj : Dep P j y) : i = j := by
 rcases Nat.lt_trichotomy i j with h | h | h
 ·exact absurd hi.1 (hj.2 i h)
 ·exact h
 ·exact absurd hj.1 (hi.2 j h)
theorem Dep.zero {y : Int} (h : Dep P 0 y) : P y = none := h.1
theorem Dep.step {d : Nat} {x : Int} (h : Dep P (d + 1) x) : ∃ p, P x = some p ∧ Dep P d p := by
 cases hp : P x with
 | none => exact absurd (Ends.none hp : Ends P 0 x) (h.2 0 (by omega))
 | some p =>
  refine ⟨p, rfl, h.1 p hp, fun n hn g => h.2 (n + 1) (by omega) ?_⟩
  intro q hq
  rw [hp] at hq
  injection hq with hq
  subst hq
  exact g
theorem yy627 : ∀ {d : Nat} {x : Int}, Dep P d x → ∀ j, j < d → ∃ y, P y ≠ none ∧ Dep P (j + 1) y
 | 0, _, _, j, hj => by omega
 | d + 1, x, h, j, hj => by
  obtain ⟨p, hp, h1⟩ := h.step
  by_cases e : j = d
  ·subst e
   exact ⟨x, by rw [hp]; simp, h⟩
  ·exact yy627 h1 j (by omega)
theorem pigeon {R : Nat → Int → Prop} (hf : ∀ i j y, R i y → R j y → i = j) : ∀ (d : Nat) (S : List Int), (∀ j, j < d → ∃ y, y ∈ S ∧ R j y) → d ≤ S.length
 | 0, _, _ => Nat.zero_le _
 | d + 1, S, h => by
  obtain ⟨y, hy, hr⟩ := h d (by omega)
  have h1 := pigeon hf d (S.erase y) fun j hj => by
   obtain ⟨z, hz, hz2⟩ := h j (by omega)
   refine ⟨z, (List.mem_erase_of_ne (fun e => ?_)).2 hz, hz2⟩
   subst e
   have := hf _ _ _ hz2 hr
   omega
  rw [List.length_erase_of_mem hy] at h1
  have := List.length_pos_of_mem hy
  omega
theorem yy679 (S : List Int) (hS : ∀ y, P y ≠ none → y ∈ S) {n : Nat} {x : Int} (h : Ends P n x) : Ends P S.length x := by
 obtain ⟨d, _, hd⟩ := dep_of h
 refine hd.1.le (pigeon (R := fun j y => Dep P (j + 1) y) (fun i j y h1 h2 => by have := Dep.fn h1 h2; omega) d S fun j hj => ?_)
 obtain ⟨y, h1, h2⟩ := yy627 hd j hj
 exact ⟨y, hS y h1, h2⟩
theorem Ends.sub (hq : ∀ id p, Q id = some p → P id = some p) : ∀ {n : Nat} {id : Int}, Ends P n id → Ends Q n id
 | 0, id, h => by
  show Q id = .none
  cases e : Q id with
  | none => rfl
  | some p =>
   have h' : P id = .none := h
   rw [hq id p e] at h'
   cases h'
 | _ + 1, _, h => fun p hp => (h p (hq _ p hp)).sub hq
variable {l : List NodeV}
theorem up_mem {y : Int} (h : up l y ≠ none) : y ∈ l.map fun x => x.id := by
 cases hf : rFind l y with
 | none => exact absurd (yy285 hf) h
 | some k =>
  obtain ⟨hk, e, _⟩ := yy47 hf
  exact List.mem_map.2 ⟨_, List.getElem_mem hk, e⟩
theorem yy731 {n : Nat} {x : Int} (h : Ends (up l) n x) : Ends (up l) l.length x := by
 have := yy679 (l.map fun x => x.id) (fun y hy => up_mem hy) h
 rwa [List.length_map] at this
theorem yy381 {top : Int} {d : Nat} (ht : Dep (up l) d top) : ∀ (m : Nat) (y : Int) (N : Nat), Dep (up l) m y → m < d → m ≤ N → wthn l top (N + 1) y = false
 | 0, y, N, h, hd, _ => by
  have e : y ≠ top := fun e => by subst e; have := Dep.fn h ht; omega
  cases hf : rFind l y with
  | none => exact yy252 e hf N
  | some k =>
   obtain ⟨hk, _⟩ := yy47 hf
   have := h.zero
   rw [yy164 hk hf] at this
   cases this
 | m + 1, y, N, h, hd, hN => by
  have e : y ≠ top := fun e => by subst e; have := Dep.fn h ht; omega
  obtain ⟨p, hp, h1⟩ := h.step
  cases hf : rFind l y with
  | none => exact yy252 e hf N
  | some k =>
   obtain ⟨hk, _⟩ := yy47 hf
   rw [yy164 hk hf] at hp
   injection hp with hp
   subst hp
   rw [yy626 e hk hf]
   obtain ⟨N', rfl⟩ : ∃ N', N = N' + 1 := ⟨N - 1, by omega⟩
   exact yy381 ht m _ N' h1 (by omega) (by omega)
theorem yy487 {k : Nat} (hk : k < l.length) (hf : rFind l l[k].id = some k) {n : Nat} (h : Ends (up l) n l[k].id) : yy95 l l[k].parent l[k].id = false := by
 obtain ⟨d, hd, hd2⟩ := dep_of (yy731 h)
 have hu := yy164 hk hf
 rw [yy154]
 cases d with
 | zero => have := hd2.zero; rw [hu] at this; cases this
 | succ d =>
  obtain ⟨p, hp, h1⟩ := hd2.step
  rw [hu] at hp
  injection hp with hp
  subst hp
  exact yy381 hd2 d _ _ h1 (by omega) (by omega)
def NdOk (x : NodeV) : Prop := 1 ≤ x.id ∧ x.id ≤ 1099511627776 ∧ IsName x.name ∧ (x.dir = true → x.text = []) ∧ x.text.length ≤ 8000 ∧ (∃ vs, V x.text vs) ∧ (cps x.text).length ≤ 2000
structure TreeM (l : List NodeV) : Prop where
 len : l.length ≤ 100
 srt : l.Pairwise fun a b => a.id < b.id
 nd : ∀ x ∈ l, NdOk x
 uniq : ∀ x ∈ l, ∀ y ∈ l, x.parent = y.parent → x.name = y.name → x = y
 tot : rTotal l ≤ 10000
 dirs : ∀ x ∈ l, x.parent = 0 ∨ ∃ q ∈ l, q.id = x.parent ∧ q.dir = true
 ends : ∀ x ∈ l, ∃ n, Ends (up l) n x.id
variable {l : List NodeV}
theorem yy488 (h : l.Pairwise fun a b => a.id < b.id) {k : Nat} (hk : k < l.length) : rFind l l[k].id = some k :=
 yy175 hk rfl fun j hj hjk e => by
  have := List.pairwise_iff_getElem.1 h j k hj hk hjk
  omega
theorem srt_id (h : l.Pairwise fun a b => a.id < b.id) {x y : NodeV} (hx : x ∈ l) (hy : y ∈ l) (e : x.id = y.id) : x = y := by
 obtain ⟨i, hi, rfl⟩ := List.getElem_of_mem hx
 obtain ⟨j, hj, rfl⟩ := List.getElem_of_mem hy
 rcases Nat.lt_trichotomy i j with g | g | g
 ·have := List.pairwise_iff_getElem.1 h i j hi hj g; omega
 ·subst g; rfl
 ·have := List.pairwise_iff_getElem.1 h j i hj hi g; omega
theorem up_iff (h : l.Pairwise fun a b => a.id < b.id) {i p : Int} : up l i = some p ↔ ∃ y ∈ l, y.id = i ∧ y.parent = p := by
 constructor
 ·intro g
  cases hf : rFind l i with
  | none => rw [yy285 hf] at g; cases g
  | some k =>
   obtain ⟨hk, e, _⟩ := yy47 hf
   rw [yy164 hk hf] at g
   injection g with g
   exact ⟨_, List.getElem_mem hk, e, g⟩
 ·rintro ⟨y, hy, rfl, rfl⟩
  obtain ⟨k, hk, rfl⟩ := List.getElem_of_mem hy
  exact yy164 hk (yy488 h hk)
theorem up_no {i : Int} : up l i = none ↔ ∀ y ∈ l, y.id ≠ i := by
 constructor
 ·intro g
  cases hf : rFind l i with
  | none => exact yy279 hf
  | some k =>
   obtain ⟨hk, e, _⟩ := yy47 hf
   rw [yy164 hk hf] at g
   cases g
 ·intro g
  exact yy285 (yy251 g)
variable {l : List NodeV}
theorem yy286 {p id : Int} {n : List Nat} (h : rPlace l p n id = 0) : rUp l p id = 0 ∧ (rChild l p n < 0 ∨ rChild l p n = id) := by
 by_cases u : rUp l p id = 0
 ·refine ⟨u, ?_⟩
  by_cases c : 0 ≤ rChild l p n ∧ rChild l p n ≠ id
  ·rw [yy326 u c.1 c.2] at h; omega
  ·omega
 ·rw [yy566 rfl u] at h
  exact absurd h u
theorem yy382 {p id : Int} (h : rUp l p id = 0) : p = 0 ∨ ∃ q ∈ l, q.id = p ∧ q.dir = true ∧ (0 < id → yy95 l p id = false) := by
 by_cases hp : p = 0
 ·exact .inl hp
 ·cases hf : rFind l p with
  | none => rw [yy676 id hp hf] at h; omega
  | some k =>
   obtain ⟨hk, e, _⟩ := yy47 hf
   rw [yy677 id hk hp hf] at h
   cases hd : l[k].dir with
   | false => rw [hd, if_pos rfl] at h; omega
   | true =>
    rw [hd, if_neg (by simp)] at h
    refine .inr ⟨_, List.getElem_mem hk, e, hd, fun hi => ?_⟩
    cases hw : yy95 l p id with
    | false => rfl
    | true => rw [if_pos ⟨hi, hw⟩] at h; omega
theorem yy287 {p : Int} {n : List Nat} (h : ∃ y ∈ l, y.parent = p ∧ y.name = n) : ∃ y ∈ l, y.parent = p ∧ y.name = n ∧ rChild l p n = y.id := by
 unfold rChild
 cases hf : l.find? (fun y => decide (y.parent = p ∧ y.name = n)) with
 | none =>
  obtain ⟨y, hy, hy2⟩ := h
  have := List.find?_eq_none.1 hf y hy
  exact absurd (decide_eq_true hy2) this
 | some y =>
  have h0 : decide (y.parent = p ∧ y.name = n) = true := List.find?_some (p := fun y : NodeV => decide (y.parent = p ∧ y.name = n)) hf
  have h1 := of_decide_eq_true h0
  exact ⟨y, List.mem_of_find?_eq_some hf, h1.1, h1.2, rfl⟩
theorem yy176 (a b : List NodeV) : rTotal (a ++ b) = rTotal a + rTotal b := by unfold rTotal; simp
theorem yy383 (x : NodeV) (b : List NodeV) : rTotal (x :: b) = (cps x.text).length + rTotal b := by unfold rTotal; simp
theorem TreeM.pos (h : TreeM l) {x : NodeV} (hx : x ∈ l) : 1 ≤ x.id := (h.nd x hx).1
theorem TreeM.up_zero (h : TreeM l) : up l 0 = none := up_no.2 fun y hy => by have := h.pos hy; omega
theorem up_out {m : List NodeV} (hs : l.Pairwise fun a b => a.id < b.id) (hm : m.Pairwise fun a b => a.id < b.id) {i : Int} (h : ∀ p, (∃ y ∈ m, y.id = i ∧ y.parent = p) ↔ ∃ y ∈ l, y.id = i ∧ y.parent = p) : up m i = up l i := by
 apply Option.ext
 intro p
 rw [up_iff hs, up_iff hm]
 exact h p
theorem TreeM.create (h : TreeM l) {a : ActV} (hid : IdOk a.id) (hn : IsName a.name) (hf : rFind l a.id = none) (hp : rPlace l a.parent a.name 0 = 0) (hlen : l.length < 100) :
  TreeM (l.take (rAt l a.id) ++ yy82 a :: l.drop (rAt l a.id)) := by
 have hno := yy279 hf
 have hlt : ∀ x ∈ l.take (rAt l a.id), x.id < a.id := fun x hx => by
  obtain ⟨j, hj, rfl⟩ := List.getElem_of_mem hx
  rw [List.length_take] at hj
  obtain ⟨h1, h2⟩ := rAt_lt (l := l) (id := a.id) (k := j) (by omega)
  rw [List.getElem_take]
  exact h2
 have hgt : ∀ x ∈ l.drop (rAt l a.id), a.id < x.id := fun x hx => by
  obtain ⟨j, hj, rfl⟩ := List.getElem_of_mem hx
  rw [List.length_drop] at hj
  rw [List.getElem_drop]
  have hq : rAt l a.id < l.length := by omega
  have h1 := rAt_ge hq
  have h2 := hno _ (List.getElem_mem hq)
  by_cases hj0 : j = 0
  ·subst hj0
   simp only [Nat.add_zero]
   omega
  ·have := List.pairwise_iff_getElem.1 h.srt (rAt l a.id) (rAt l a.id + j) hq (by omega) (by omega)
   omega
 have hmem : ∀ x, x ∈ l ↔ x ∈ l.take (rAt l a.id) ∨ x ∈ l.drop (rAt l a.id) := fun x => by
  rw [← List.mem_append, List.take_append_drop]
 have hsum : rTotal l = rTotal (l.take (rAt l a.id)) + rTotal (l.drop (rAt l a.id)) := by rw [← yy176, List.take_append_drop]
 have hlq : (l.take (rAt l a.id)).length + (l.drop (rAt l a.id)).length = l.length := by rw [← List.length_append, List.take_append_drop]
 have hs1 : (l.take (rAt l a.id)).Pairwise fun a b => a.id < b.id := h.srt.sublist (List.take_sublist _ _)
 have hs2 : (l.drop (rAt l a.id)).Pairwise fun a b => a.id < b.id := h.srt.sublist (List.drop_sublist _ _)
 generalize l.take (rAt l a.id) = m1 at hlt hmem hsum hlq hs1 ⊢
 generalize l.drop (rAt l a.id) = m2 at hgt hmem hsum hlq hs2 ⊢
 have hin : ∀ x, x ∈ m1 ++ yy82 a :: m2 ↔ x = yy82 a ∨ x ∈ l := fun x => by
  rw [List.mem_append, List.mem_cons, hmem]
  constructor
  ·rintro (g | g | g)
   ·exact .inr (.inl g)
   ·exact .inl g
   ·exact .inr (.inr g)
  ·rintro (g | g | g)
   ·exact .inr (.inl g)
   ·exact .inl g
   ·exact .inr (.inr g)
 have hs : (m1 ++ yy82 a :: m2).Pairwise fun a b => a.id < b.id := by
  rw [List.pairwise_append]
  refine ⟨hs1, List.pairwise_cons.2 ⟨fun y hy => hgt y hy, hs2⟩, fun x hx y hy => ?_⟩
  have h1 := hlt x hx
  rcases List.mem_cons.1 hy with rfl | hy
  ·exact h1
  ·have := hgt y hy; omega
 obtain ⟨hu, hc⟩ := yy286 hp
 have hnc : ∀ y ∈ l, ¬ (y.parent = a.parent ∧ y.name = a.name) := fun y hy g => by
  obtain ⟨z, hz, _, _, e⟩ := yy287 ⟨y, hy, g⟩
  have := h.pos hz
  omega
 have hpar : ∀ x ∈ l, x.parent ≠ a.id := fun x hx e => by
  rcases h.dirs x hx with g | ⟨q, hq, g, _⟩
  ·have := hid.1; omega
  ·exact hno q hq (by omega)
 have hupn : up (m1 ++ yy82 a :: m2) a.id = some a.parent := (up_iff hs).2 ⟨_, (hin _).2 (.inl rfl), rfl, rfl⟩
 have hupo : ∀ i, i ≠ a.id → up (m1 ++ yy82 a :: m2) i = up l i := fun i hi => up_out h.srt hs fun p => by
  constructor
  ·rintro ⟨y, hy, e1, e2⟩
   rcases (hin y).1 hy with rfl | hy
   ·exact absurd e1.symm hi
   ·exact ⟨y, hy, e1, e2⟩
  ·rintro ⟨y, hy, e1, e2⟩
   exact ⟨y, (hin y).2 (.inr hy), e1, e2⟩
 have hold : ∀ n y, y ≠ a.id → Ends (up l) n y → Ends (up (m1 ++ yy82 a :: m2)) n y := by
  intro n
  induction n with
  | zero => intro y hy g; show up _ _ = none; rw [hupo y hy]; exact g
  | succ n ih =>
   intro y hy g p hp
   rw [hupo y hy] at hp
   obtain ⟨x, hx, _, e⟩ := (up_iff h.srt).1 hp
   exact ih p (e ▸ hpar x hx) (g p hp)
 refine ⟨?_, hs, fun x hx => ?_, fun x hx y hy e1 e2 => ?_, ?_, fun x hx => ?_, fun x hx => ?_⟩
 ·rw [List.length_append, List.length_cons]; omega
 ·rcases (hin x).1 hx with rfl | hx
  ·have := cps_le ([] : List Nat)
   exact ⟨hid.1, hid.2, hn, fun _ => rfl, Nat.zero_le _, ⟨[], by have g := V.mk (vs := []) (fun _ h => by cases h); rwa [E_nil] at g⟩, by show (cps []).length ≤ _; simp at this; rw [this]; simp⟩
  ·exact h.nd x hx
 ·rcases (hin x).1 hx with rfl | hx
  ·rcases (hin y).1 hy with rfl | hy
   ·rfl
   ·exact absurd ⟨e1.symm, e2.symm⟩ (hnc y hy)
  ·rcases (hin y).1 hy with rfl | hy
   ·exact absurd ⟨e1, e2⟩ (hnc x hx)
   ·exact h.uniq x hx y hy e1 e2
 ·have := cps_le ([] : List Nat)
  rw [yy176, yy383]
  have e : (cps (yy82 a).text).length = 0 := by
   show (cps []).length = 0
   simpa using this
  have := h.tot
  omega
 ·rcases (hin x).1 hx with rfl | hx
  ·rcases yy382 hu with g | ⟨q, hq, g1, g2, _⟩
   ·exact .inl g
   ·exact .inr ⟨q, (hin q).2 (.inr hq), g1, g2⟩
  ·rcases h.dirs x hx with g | ⟨q, hq, g1, g2⟩
   ·exact .inl g
   ·exact .inr ⟨q, (hin q).2 (.inr hq), g1, g2⟩
 ·rcases (hin x).1 hx with rfl | hx
  ·have hend : ∃ n, Ends (up (m1 ++ yy82 a :: m2)) n a.parent := by
    rcases yy382 hu with g | ⟨q, hq, g1, g2, _⟩
    ·refine ⟨0, ?_⟩
     show up _ _ = none
     rw [g, hupo 0 (by have := hid.1; omega)]
     exact h.up_zero
    ·obtain ⟨n, hn⟩ := h.ends q hq
     exact ⟨n, g1 ▸ hold n _ (hno q hq) hn⟩
   obtain ⟨n, hn⟩ := hend
   refine ⟨n + 1, fun p hp => ?_⟩
   have hp' : up (m1 ++ yy82 a :: m2) a.id = some p := hp
   rw [hupn] at hp'
   injection hp' with hp'
   subst hp'
   exact hn
  ·obtain ⟨n, hn⟩ := h.ends x hx
   exact ⟨n, hold n _ (hno x hx) hn⟩
theorem TreeM.remove (h : TreeM l) {k : Nat} (hk : k < l.length) (hno : ∀ y ∈ l, y.parent ≠ l[k].id) : TreeM (l.take k ++ l.drop (k + 1)) := by
 have hl : l = l.take k ++ l[k] :: l.drop (k + 1) := by rw [← List.drop_eq_getElem_cons hk, List.take_append_drop]
 have hsub : (l.take k ++ l.drop (k + 1)).Sublist l := by
  conv => rhs; rw [hl]
  exact List.Sublist.append (List.Sublist.refl _) (List.sublist_cons_self _ _)
 have hs := h.srt.sublist hsub
 have hin : ∀ x, x ∈ l → x.id ≠ l[k].id → x ∈ l.take k ++ l.drop (k + 1) := fun x hx hne => by
  rw [hl, List.mem_append, List.mem_cons] at hx
  rw [List.mem_append]
  rcases hx with g | g | g
  ·exact .inl g
  ·rw [g] at hne; exact absurd rfl hne
  ·exact .inr g
 have hof : ∀ x, x ∈ l.take k ++ l.drop (k + 1) → x ∈ l := fun x hx => hsub.mem hx
 refine ⟨?_, hs, fun x hx => h.nd x (hof x hx), fun x hx y hy => h.uniq x (hof x hx) y (hof y hy), ?_, fun x hx => ?_, fun x hx => ?_⟩
 ·exact Nat.le_trans hsub.length_le h.len
 ·have h1 := h.tot
  have h2 : rTotal l = rTotal (l.take k ++ l[k] :: l.drop (k + 1)) := congrArg rTotal hl
  rw [yy176, yy383] at h2
  rw [yy176]
  omega
 ·rcases h.dirs x (hof x hx) with g | ⟨q, hq, g1, g2⟩
  ·exact .inl g
  ·exact .inr ⟨q, hin q hq (fun e => hno x (hof x hx) (by omega)), g1, g2⟩
 ·obtain ⟨n, hn⟩ := h.ends x (hof x hx)
  refine ⟨n, hn.sub fun id p hp => ?_⟩
  obtain ⟨y, hy, e1, e2⟩ := (up_iff hs).1 hp
  exact (up_iff h.srt).2 ⟨y, hof y hy, e1, e2⟩
theorem TreeM.set (h : TreeM l) {k : Nat} (hk : k < l.length) {y : NodeV} (hid : y.id = l[k].id) (hdir : y.dir = l[k].dir) (hy : NdOk y) (hu : ∀ (j : Nat) (hj : j < l.length), j ≠ k → ¬ (l[j].parent = y.parent ∧ l[j].name = y.name))
  (ht : rTotal (l.set k y) ≤ 10000) (hd : y.parent = 0 ∨ ∃ q ∈ l, q.id = y.parent ∧ q.dir = true) (hw : yy95 l y.parent y.id = false) : TreeM (l.set k y) := by
 have hcase : ∀ x, x ∈ l.set k y → x = y ∨ ∃ j, ∃ hj : j < l.length, j ≠ k ∧ x = l[j] := fun x hx => by
  obtain ⟨j, hj, rfl⟩ := List.getElem_of_mem hx
  rw [List.length_set] at hj
  by_cases e : j = k
  ·subst e; exact .inl (List.getElem_set_self _)
  ·exact .inr ⟨j, hj, e, List.getElem_set_ne (fun g => e g.symm) _⟩
 have hself : y ∈ l.set k y := List.mem_set hk y
 have hoth : ∀ (j : Nat) (hj : j < l.length), j ≠ k → l[j] ∈ l.set k y := fun j hj e => by
  have : (l.set k y)[j]'(by rw [List.length_set]; exact hj) = l[j] := List.getElem_set_ne (fun g => e g.symm) _
  rw [← this]
  exact List.getElem_mem _
 have hsame : ∀ q ∈ l, ∃ q' ∈ l.set k y, q'.id = q.id ∧ q'.dir = q.dir := fun q hq => by
  obtain ⟨j, hj, rfl⟩ := List.getElem_of_mem hq
  by_cases e : j = k
  ·subst e; exact ⟨y, hself, hid, hdir⟩
  ·exact ⟨_, hoth j hj e, rfl, rfl⟩
 have hids : ∀ (j : Nat) (hj : j < l.length), ((l.set k y)[j]'(by rw [List.length_set]; exact hj)).id = l[j].id := fun j hj => by
  rw [List.getElem_set]
  split
  ·rename_i e; subst e; exact hid
  ·rfl
 have hs : (l.set k y).Pairwise fun a b => a.id < b.id := by
  rw [List.pairwise_iff_getElem]
  intro i j hi hj hij
  rw [List.length_set] at hi hj
  rw [hids i hi, hids j hj]
  exact List.pairwise_iff_getElem.1 h.srt i j hi hj hij
 have hupy : up (l.set k y) y.id = some y.parent := (up_iff hs).2 ⟨y, hself, rfl, rfl⟩
 have hupo : ∀ i, i ≠ y.id → up (l.set k y) i = up l i := fun i hi => up_out h.srt hs fun p => by
  constructor
  ·rintro ⟨z, hz, e1, e2⟩
   rcases hcase z hz with rfl | ⟨j, hj, _, rfl⟩
   ·exact absurd e1.symm hi
   ·exact ⟨_, List.getElem_mem hj, e1, e2⟩
  ·rintro ⟨z, hz, e1, e2⟩
   obtain ⟨j, hj, rfl⟩ := List.getElem_of_mem hz
   by_cases e : j = k
   ·subst e; exact absurd (by omega) hi
   ·exact ⟨_, hoth j hj e, e1, e2⟩
 have hclear : ∀ n p, wthn l y.id n p = false → Ends (up (l.set k y)) n p := by
  intro n
  induction n with
  | zero => intro p g; rw [yy564] at g; cases g
  | succ n ih =>
   intro p g
   by_cases e : p = y.id
   ·rw [e, yy675] at g; cases g
   ·cases hf : rFind l p with
    | none => exact Ends.none (by rw [hupo p e]; exact yy285 hf)
    | some j =>
     obtain ⟨hj, _⟩ := yy47 hf
     rw [yy626 e hj hf] at g
     intro r hr
     rw [hupo p e, yy164 hj hf] at hr
     injection hr with hr
     subst hr
     exact ih _ g
 have hyend : Ends (up (l.set k y)) (l.length + 1 + 1) y.id := by
  intro p hp
  rw [hupy] at hp
  injection hp with hp
  subst hp
  rw [yy154] at hw
  exact hclear _ _ hw
 have hall : ∀ n z, Ends (up l) n z → ∃ m, Ends (up (l.set k y)) m z := by
  intro n
  induction n with
  | zero =>
   intro z g
   by_cases e : z = y.id
   ·exact ⟨_, e ▸ hyend⟩
   ·exact ⟨0, (hupo z e).trans g⟩
  | succ n ih =>
   intro z g
   by_cases e : z = y.id
   ·exact ⟨_, e ▸ hyend⟩
   ·cases hz : up l z with
    | none => exact ⟨0, (hupo z e).trans hz⟩
    | some p =>
     obtain ⟨m, hm⟩ := ih p (g p hz)
     refine ⟨m + 1, fun r hr => ?_⟩
     rw [hupo z e, hz] at hr
     injection hr with hr
     subst hr
     exact hm
 refine ⟨by rw [List.length_set]; exact h.len, hs, fun x hx => ?_, fun x hx z hz e1 e2 => ?_, ht, fun x hx => ?_, fun x hx => ?_⟩
 ·rcases hcase x hx with rfl | ⟨j, hj, _, rfl⟩
  ·exact hy
  ·exact h.nd _ (List.getElem_mem hj)
 ·rcases hcase x hx with rfl | ⟨j, hj, hjk, rfl⟩
  ·rcases hcase z hz with rfl | ⟨i, hi, hik, rfl⟩
   ·rfl
   ·exact absurd ⟨e1.symm, e2.symm⟩ (hu i hi hik)
  ·rcases hcase z hz with rfl | ⟨i, hi, hik, rfl⟩
   ·exact absurd ⟨e1, e2⟩ (hu j hj hjk)
   ·exact h.uniq _ (List.getElem_mem hj) _ (List.getElem_mem hi) e1 e2
 ·have key : ∀ q ∈ l, q.dir = true → ∃ q' ∈ l.set k y, q'.id = q.id ∧ q'.dir = true := fun q hq g => by
   obtain ⟨q', h1, h2, h3⟩ := hsame q hq
   exact ⟨q', h1, h2, h3.trans g⟩
  rcases hcase x hx with rfl | ⟨j, hj, _, rfl⟩
  ·rcases hd with g | ⟨q, hq, g1, g2⟩
   ·exact .inl g
   ·obtain ⟨q', h1, h2, h3⟩ := key q hq g2
    exact .inr ⟨q', h1, h2.trans g1, h3⟩
  ·rcases h.dirs _ (List.getElem_mem hj) with g | ⟨q, hq, g1, g2⟩
   ·exact .inl g
   ·obtain ⟨q', h1, h2, h3⟩ := key q hq g2
    exact .inr ⟨q', h1, h2.trans g1, h3⟩
 ·rcases hcase x hx with rfl | ⟨j, hj, _, rfl⟩
  ·exact ⟨_, hyend⟩
  ·obtain ⟨n, hn⟩ := h.ends _ (List.getElem_mem hj)
   exact hall n _ hn
variable {l : List NodeV}
theorem yy489 {k : Nat} (hk : k < l.length) {y : NodeV} (h : y.text = l[k].text) : rTotal (l.set k y) = rTotal l := by
 unfold rTotal
 rw [List.map_set, show (cps y.text).length = (l.map fun y => (cps y.text).length)[k]'(by rw [List.length_map]; exact hk) from by rw [List.getElem_map, h], List.set_getElem_self]
theorem yy384 {t : List Nat} {ops : List CompV} (h : dErr t ops = 0) : (dTxt t ops).length ≤ 8000 ∧ (∃ vs, V (dTxt t ops) vs) ∧ (cps (dTxt t ops)).length ≤ 2000 := by
 obtain ⟨hz, x, hx, hn⟩ := yy116 h
 have hok := ok_of hz
 have hb := hok.base
 have ho := hok.out1
 have hl := yy109 ops x hok.wh (by omega)
 have hv : V (dTxt t ops) (ed ops x) := by
  rw [yy282 hz hx hn]
  exact V.mk (ed_may ops x hok.wh hx.may)
 exact ⟨(yy283 t ops).2, ⟨_, hv⟩, by rw [cps_of hv]; omega⟩
theorem yy419 (h : TreeM l) {id : Int} (hi : 1 ≤ id) : yy95 l 0 id = false := by
 rw [yy154]
 exact yy252 (by omega) (yy251 fun y hy => by have := h.pos hy; omega) _
theorem TreeM.does (h : TreeM l) (a : ActV) : TreeM (rDo l a).1 := by
 by_cases k1 : a.kind = 1
 ·by_cases c : IdOk a.id ∧ IsName a.name
  ·cases hf : rFind l a.id with
   | some q => rw [rDo_c2 k1 c hf]; exact h
   | none =>
    by_cases hp : rPlace l a.parent a.name 0 = 0
    ·by_cases hn : 100 ≤ l.length
     ·rw [rDo_c4 k1 c hf hp hn]; exact h
     ·rw [rDo_c5 k1 c hf hp hn]; exact h.create c.1 c.2 hf hp (by omega)
    ·rw [rDo_c3 k1 c hf hp]; exact h
  ·rw [rDo_c1 k1 c]; exact h
 by_cases k2 : a.kind = 2
 ·cases hf : rFind l a.id with
  | none => rw [rDo_r1 k2 hf]; exact h
  | some k =>
   by_cases c : ∃ y ∈ l, y.parent = a.id
   ·rw [rDo_r2 k2 hf c]; exact h
   ·rw [rDo_r3 k2 hf c]
    obtain ⟨hk, e, _⟩ := yy47 hf
    exact h.remove hk fun y hy g => c ⟨y, hy, by omega⟩
 by_cases k3 : a.kind = 3
 ·by_cases c : IsName a.name
  ·cases hf : rFind l a.id with
   | none => rw [rDo_m2 k3 c hf]; exact h
   | some k =>
    obtain ⟨hk, e, _⟩ := yy47 hf
    by_cases hp : rPlace l a.parent a.name a.id = 0
    ·rw [rDo_m4 k3 c hk hf hp]
     obtain ⟨hu, hc⟩ := yy286 hp
     have hx := h.nd _ (List.getElem_mem hk)
     have hi := hx.1
     refine h.set hk rfl rfl ⟨hx.1, hx.2.1, c, hx.2.2.2.1, hx.2.2.2.2.1, hx.2.2.2.2.2.1, hx.2.2.2.2.2.2⟩ (fun j hj hjk g => ?_) ?_ ?_ ?_
     ·obtain ⟨z, hz, g1, g2, g3⟩ := yy287 ⟨_, List.getElem_mem hj, g⟩
      have hz1 := h.pos hz
      have e2 : z.id = l[k].id := by
       rcases hc with hc | hc
       ·have : rChild l a.parent a.name = z.id := g3
        omega
       ·have : rChild l a.parent a.name = z.id := g3
        omega
      have e3 := srt_id h.srt hz (List.getElem_mem hk) e2
      have e4 := h.uniq _ (List.getElem_mem hj) z hz (g.1.trans g1.symm) (g.2.trans g2.symm)
      have e5 : l[j].id = l[k].id := by rw [e4, e3]
      rcases Nat.lt_trichotomy j k with q | q | q
      ·have := List.pairwise_iff_getElem.1 h.srt j k hj hk q; omega
      ·exact hjk q
      ·have := List.pairwise_iff_getElem.1 h.srt k j hk hj q; omega
     ·exact (yy489 (y := ⟨l[k].id, a.parent, a.name, l[k].dir, l[k].text⟩) hk rfl) ▸ h.tot
     ·rcases yy382 hu with g | ⟨q, hq, g1, g2, _⟩
      ·exact .inl g
      ·exact .inr ⟨q, hq, g1, g2⟩
     ·show yy95 l a.parent l[k].id = false
      rcases yy382 hu with g | ⟨q, hq, g1, g2, g3⟩
      ·rw [g]; exact yy419 h hi
      ·rw [e]; exact g3 (by omega)
    ·rw [rDo_m3 k3 c hf hp]; exact h
  ·rw [rDo_m1 k3 c]; exact h
 by_cases k4 : a.kind = 4
 ·cases hf : rFind l a.id with
  | none => rw [rDo_e1 k4 hf]; exact h
  | some k =>
   obtain ⟨hk, e, _⟩ := yy47 hf
   rw [rDo_e k4 hk hf]
   split
   ·exact h
   ·rename_i hd
    split
    ·exact h
    ·rename_i hE
     split
     ·exact h
     ·rename_i ht
      have hx := h.nd _ (List.getElem_mem hk)
      obtain ⟨g1, g2, g3⟩ := yy384 (t := l[k].text) (ops := a.ops) (by omega)
      obtain ⟨n, hn⟩ := h.ends _ (List.getElem_mem hk)
      refine h.set hk rfl rfl ⟨hx.1, hx.2.1, hx.2.2.1, fun g => absurd g hd, g1, g2, g3⟩ (fun j hj hjk g => ?_) (by omega) ?_ (yy487 hk (yy488 h.srt hk) hn)
      ·have e4 := h.uniq _ (List.getElem_mem hj) _ (List.getElem_mem hk) g.1 g.2
       have e5 : l[j].id = l[k].id := by rw [e4]
       rcases Nat.lt_trichotomy j k with q | q | q
       ·have := List.pairwise_iff_getElem.1 h.srt j k hj hk q; omega
       ·exact hjk q
       ·have := List.pairwise_iff_getElem.1 h.srt k j hk hj q; omega
      ·exact h.dirs l[k] (List.getElem_mem hk)
 rw [rDo_o k1 k2 k3 k4]; exact h
variable {l : List NodeV}
end Go.Proofs.YtjpjdkdbgjipnaaDoor
