/- What the guards of the statements say of acts and of what was done. No condition. (Merged of 3 texts.) -/
import Derived.Test.YtjpjdkdbgjipnaaGreatDoorU5
import Derived.Test.YtjpjdkdbgjipnaaGreatDoorU42
import Derived.Test.YtjpjdkdbgjipnaaGreatDoorU6
import Derived.Test.YtjpjdkdbgjipnaaGreatDoorU2
import Derived.Test.YtjpjdkdbgjipnaaGreatDoorU48
import Derived.Test.YtjpjdkdbgjipnaaGreatDoorU41
import Derived.Test.YtjpjdkdbgjipnaaGreatDoorU45
import Derived.Test.YtjpjdkdbgjipnaaGreatDoorU14
import Derived.Test.YtjpjdkdbgjipnaaGreatDoorU8
namespace Go.Proofs.YtjpjdkdbgjipnaaGreatDoor
open Go.RowKit Go.Deep
theorem yy171 (lim : Nat) (hlim : lim < 1099511627776) (l : List CompV) (h : yy27 lim l ≤ lim) : 2 * l.length + tlen l ≤ lim := by
 have e := yy498 lim hlim (l.map yy85) 0 h
 have e2 : ∀ l : List CompV, ((l.map yy85).map List.sum).sum = 2 * l.length + tlen l := by
  intro l
  induction l with
  | nil => rfl
  | cons c l ih =>
   have h1 : tlen (c :: l) = c.text.length + tlen l := by simp [tlen]
   rw [List.map_cons, List.map_cons, List.sum_cons, ih, h1, List.length_cons]
   simp only [yy85, List.sum_cons, List.sum_nil]
   omega
 rw [e2] at e
 have : yy27 lim l = 0 + (2 * l.length + tlen l) := e
 omega
theorem yy731 (k n : Int) (t : List Nat) (hk : 0 ≤ k ∧ k ≤ 9) (hn : 0 ≤ n ∧ n ≤ 1099511627776) (ht : (∀ x ∈ t, x < 256) ∧ t.length ≤ 1099511627776) : (CompV.mk k n t).Good :=
 ⟨by unfold Fit64; show _ ≤ k ∧ k ≤ _; omega, by unfold Fit64; show _ ≤ n ∧ n ≤ _; omega, ht.1, by have := ht.2; unfold maxLen; show t.length ≤ _; omega⟩
theorem V_one (x : Nat) (h : 0 < x ∧ x < 128) : V [x] [x] := by
 refine ⟨?_, ?_⟩
 ·intro v hv; simp at hv; subst hv; unfold May; omega
 ·rw [E_cons, E_nil]
  have e : enc x = [x] := by
   unfold enc
   rw [if_pos h.2]
  rw [e]; rfl
theorem yy640 : Nrm [] := fun i c h => by simp at h
theorem yy347 {c : CompV} {l : List CompV} (hc : Whole c) (hl : Nrm l) (hd : ∀ d, l[0]? = some d → d.kind ≠ c.kind ∧ ¬ (c.kind = 3 ∧ d.kind = 2)) : Nrm (c :: l) := by
 intro i d h
 cases i with
 | zero =>
  simp at h
  subst h
  refine ⟨?_, fun p h0 => by omega⟩
  rcases hc with h | ⟨h1, h2, h3, h4⟩
  ·exact .inl h
  ·exact .inr ⟨h1, h2, h3, h4, fun p h0 => by omega⟩
 | succ i =>
  have h' : l[i]? = some d := by simpa using h
  have hn := hl i d h'
  have hpre : ∀ p, (c :: l)[i + 1 - 1]? = some p → (i = 0 ∧ p = c) ∨ (0 < i ∧ l[i - 1]? = some p) := fun p hp => by
   rw [Nat.add_sub_cancel] at hp
   cases i with
   | zero => simp at hp; exact .inl ⟨rfl, hp.symm⟩
   | succ j => exact .inr ⟨by omega, by simpa using hp⟩
  refine ⟨?_, fun p _ hp => ?_⟩
  ·rcases hn.1 with h1 | ⟨h1, h2, h3, h4, h5⟩
   ·exact .inl h1
   ·refine .inr ⟨h1, h2, h3, h4, fun p _ hp => ?_⟩
    rcases hpre p hp with ⟨rfl, rfl⟩ | ⟨h0, hp'⟩
    ·exact fun e => (hd d h').2 ⟨e, h1⟩
    ·exact h5 p h0 hp'
  ·rcases hpre p hp with ⟨rfl, rfl⟩ | ⟨h0, hp'⟩
   ·exact fun e => (hd d h').1 e.symm
   ·exact hn.2 p h0 hp'
theorem yy582 {a b : Int} (h1 : 0 ≤ a) (h2 : 0 ≤ b) (h3 : a + b ≤ 1099511627776) : hld a b = a + b := by unfold hld; omega
theorem hld01 : hld 0 1 = 1 := yy582 (by omega) (by omega) (by omega)
end Go.Proofs.YtjpjdkdbgjipnaaGreatDoor
namespace Go.Proofs.YtjpjdkdbgjipnaaGreatDoor
def ActH (a : ActV) : Prop := a.Good ∧ Held1 a.ops ∧ a.name.length ≤ 1048576
def KeyH (k : OneK) : Prop := Held1 k.ops ∧ k.name.length ≤ 1048576
theorem sum_le : ∀ {l : List Nat} {x : Nat}, x ∈ l → x ≤ l.sum
 | y :: l, x, h => by
  rw [List.sum_cons]
  rcases List.mem_cons.1 h with rfl | h
  ·omega
  ·have := sum_le h; omega
theorem yy278 {α : Type} (f : α → List Nat) (lim : Nat) (hlim : lim < 1099511627776) (l : List α) (h : wts lim 0 (l.map f) ≤ lim) : (∀ x ∈ l, (f x).sum ≤ lim) ∧ ((l.map f).map List.sum).sum ≤ lim := by
 have e := yy498 lim hlim (l.map f) 0 h
 have h2 : ((l.map f).map List.sum).sum ≤ lim := by omega
 refine ⟨fun x hx => ?_, h2⟩
 have : (f x).sum ∈ (l.map f).map List.sum := List.mem_map.2 ⟨_, List.mem_map.2 ⟨x, hx, rfl⟩, rfl⟩
 exact Nat.le_trans (sum_le this) h2
theorem yy148 {α : Type} (f : α → List Nat) (hf : ∀ x, 1 ≤ (f x).sum) : ∀ l : List α, l.length ≤ ((l.map f).map List.sum).sum
 | [] => Nat.le_refl _
 | x :: l => by
  have := yy148 f hf l
  have := hf x
  rw [List.map_cons, List.map_cons, List.sum_cons, List.length_cons]
  omega
theorem yy587 {lim : Nat} (hlim : lim ≤ 4000) {l : List ActV} (hg : ∀ y ∈ l, y.Good) (h : yy34 lim l ≤ lim) : l.length ≤ 4000 ∧ ∀ y ∈ l, ActH y := by
 obtain ⟨h1, h2⟩ := yy278 (yy76 lim) lim (by omega) l h
 have h3 := yy148 (yy76 lim) (fun x => by simp [yy76]; omega) l
 refine ⟨by omega, fun y hy => ?_⟩
 have h4 := h1 y hy
 simp only [yy76, List.sum_cons, List.sum_nil] at h4
 have h5 := yy171 lim (by omega) y.ops (by omega)
 exact ⟨hg y hy, yy641 (hg y hy).2.2.2.2.1 h5 (by omega), by omega⟩
theorem yy588 {l : List OneV} (hg : ∀ y ∈ l, y.Good) (h : smallO l = true) : l.length ≤ 3000 ∧ ∀ y ∈ l, KeyH y.k := by
 have h0 := of_decide_eq_true h
 obtain ⟨h1, h2⟩ := yy278 (yy96 3000) 3000 (by omega) l h0
 have h3 := yy148 (yy96 3000) (fun x => by simp [yy96]; omega) l
 refine ⟨by omega, fun y hy => ?_⟩
 have h4 := h1 y hy
 simp only [yy96, List.sum_cons, List.sum_nil] at h4
 have h5 := yy171 3000 (by omega) y.k.ops (by omega)
 exact ⟨yy641 (hg y hy).2.2.2.1 h5 (by omega), by omega⟩
theorem yy219 {x : OneK} {a : ActV} (hx : KeyH x) (ha : ActH a) : KeyH (yy48 x a) := by
 unfold yy48
 split
 ·exact hx
 split
 ·exact ⟨hx.1, ha.2.2⟩
 split
 ·exact hx
 split
 ·exact ⟨hx.1, ha.2.2⟩
 split
 ·exact ⟨ha.2.1, hx.2⟩
 ·exact hx
theorem yy684 {l : List ActV} (h : ∀ a ∈ l, ActH a) : ∀ k ∈ eff l, KeyH k := by
 intro k hk
 obtain ⟨i, _, rfl⟩ := List.mem_map.1 hk
 have : ∀ (l : List ActV) (x : OneK), (∀ a ∈ l, ActH a) → KeyH x → KeyH (l.foldl yy48 x) := by
  intro l
  induction l with
  | nil => intro x _ hx; exact hx
  | cons a l ih =>
   intro x hl hx
   rw [List.foldl_cons]
   exact ih _ (fun b hb => hl b (List.mem_cons_of_mem _ hb)) (yy219 hx (hl a (List.mem_cons_self ..)))
 exact this l _ h ⟨yy172, Nat.zero_le _⟩
end Go.Proofs.YtjpjdkdbgjipnaaGreatDoor
