/- Calls of the laws of edits that most need, each told by a function. Conditions: what memory may hold. (Merged of 5 texts.) -/
import Derived.Test.YtjpjdkdbgjipnaaDoorV47
import Derived.Test.YtjpjdkdbgjipnaaDoorV4
import Derived.Test.YtjpjdkdbgjipnaaDoorV6
import Derived.Test.YtjpjdkdbgjipnaaDoorV21
import Derived.Test.YtjpjdkdbgjipnaaDoorV45
import Derived.Test.YtjpjdkdbgjipnaaDoorV43
import Derived.Test.YtjpjdkdbgjipnaaDoorV24
import Derived.Test.YtjpjdkdbgjipnaaDoorV44
import Derived.Test.YtjpjdkdbgjipnaaDoorV22
namespace Go.Proofs.YtjpjdkdbgjipnaaDoor
open Go.RowKit Go.Deep
theorem yy222 (lim : Nat) (hlim : lim < 1099511627776) (l : List CompV) (h : yy35 lim l ≤ lim) : 2 * l.length + tlen l ≤ lim := by
 have e := yy664 lim hlim (l.map yy78) 0 h
 have e2 : ∀ l : List CompV, ((l.map yy78).map List.sum).sum = 2 * l.length + tlen l := by
  intro l
  induction l with
  | nil => rfl
  | cons c l ih =>
   have h1 : tlen (c :: l) = c.text.length + tlen l := by simp [tlen]
   rw [List.map_cons, List.map_cons, List.sum_cons, ih, h1, List.length_cons]
   simp only [yy78, List.sum_cons, List.sum_nil]
   omega
 rw [e2] at e
 have : yy35 lim l = 0 + (2 * l.length + tlen l) := e
 omega
theorem yy725 (k n : Int) (t : List Nat) (hk : 0 ≤ k ∧ k ≤ 9) (hn : 0 ≤ n ∧ n ≤ 1099511627776) (ht : (∀ x ∈ t, x < 256) ∧ t.length ≤ 1099511627776) : (CompV.mk k n t).Good :=
 ⟨by unfold Fit64; show _ ≤ k ∧ k ≤ _; omega, by unfold Fit64; show _ ≤ n ∧ n ≤ _; omega, ht.1, by have := ht.2; unfold maxLen; show t.length ≤ _; omega⟩
theorem V_one (x : Nat) (h : 0 < x ∧ x < 128) : V [x] [x] := by
 refine ⟨?_, ?_⟩
 ·intro v hv; simp at hv; subst hv; unfold May; omega
 ·rw [E_cons, E_nil]
  have e : enc x = [x] := by
   unfold enc
   rw [if_pos h.2]
  rw [e]; rfl
theorem yy622 : Nrm [] := fun i c h => by simp at h
theorem yy323 {c : CompV} {l : List CompV} (hc : Whole c) (hl : Nrm l) (hd : ∀ d, l[0]? = some d → d.kind ≠ c.kind ∧ ¬ (c.kind = 3 ∧ d.kind = 2)) : Nrm (c :: l) := by
 intro i d h
 cases i with
 | zero =>
  simp at h
  subst h
  refine ⟨?_, fun p h0 => by omega⟩
  rcases hc with h | ⟨h1, h2, h3, h4⟩
  ·exact .inl h
  ·exact .inr ⟨h1, h2, h3, h4, fun p h0 => by omega⟩
 | succ i =>
  have h' : l[i]? = some d := by simpa using h
  have hn := hl i d h'
  have hpre : ∀ p, (c :: l)[i + 1 - 1]? = some p → (i = 0 ∧ p = c) ∨ (0 < i ∧ l[i - 1]? = some p) := fun p hp => by
   rw [Nat.add_sub_cancel] at hp
   cases i with
   | zero => simp at hp; exact .inl ⟨rfl, hp.symm⟩
   | succ j => exact .inr ⟨by omega, by simpa using hp⟩
  refine ⟨?_, fun p _ hp => ?_⟩
  ·rcases hn.1 with h1 | ⟨h1, h2, h3, h4, h5⟩
   ·exact .inl h1
   ·refine .inr ⟨h1, h2, h3, h4, fun p _ hp => ?_⟩
    rcases hpre p hp with ⟨rfl, rfl⟩ | ⟨h0, hp'⟩
    ·exact fun e => (hd d h').2 ⟨e, h1⟩
    ·exact h5 p h0 hp'
  ·rcases hpre p hp with ⟨rfl, rfl⟩ | ⟨h0, hp'⟩
   ·exact fun e => (hd d h').1 e.symm
   ·exact hn.2 p h0 hp'
theorem yy558 {a b : Int} (h1 : 0 ≤ a) (h2 : 0 ≤ b) (h3 : a + b ≤ 1099511627776) : hld a b = a + b := by unfold hld; omega
theorem hld01 : hld 0 1 = 1 := yy558 (by omega) (by omega) (by omega)
end Go.Proofs.YtjpjdkdbgjipnaaDoor
namespace Go.Proofs.YtjpjdkdbgjipnaaDoor
def ActH (a : ActV) : Prop := a.Good ∧ Held1 a.ops ∧ a.name.length ≤ 1048576
def KeyH (k : OneK) : Prop := Held1 k.ops ∧ k.name.length ≤ 1048576
theorem yy194 {x : OneK} {a : ActV} (hx : KeyH x) (ha : ActH a) : KeyH (yy70 x a) := by
 unfold yy70
 split
 ·exact hx
 split
 ·exact ⟨hx.1, ha.2.2⟩
 split
 ·exact hx
 split
 ·exact ⟨hx.1, ha.2.2⟩
 split
 ·exact ⟨ha.2.1, hx.2⟩
 ·exact hx
theorem yy674 {l : List ActV} (h : ∀ a ∈ l, ActH a) : ∀ k ∈ eff l, KeyH k := by
 intro k hk
 obtain ⟨i, _, rfl⟩ := List.mem_map.1 hk
 have : ∀ (l : List ActV) (x : OneK), (∀ a ∈ l, ActH a) → KeyH x → KeyH (l.foldl yy70 x) := by
  intro l
  induction l with
  | nil => intro x _ hx; exact hx
  | cons a l ih =>
   intro x hl hx
   rw [List.foldl_cons]
   exact ih _ (fun b hb => hl b (List.mem_cons_of_mem _ hb)) (yy194 hx (hl a (List.mem_cons_self ..)))
 exact this l _ h ⟨yy152, Nat.zero_le _⟩
end Go.Proofs.YtjpjdkdbgjipnaaDoor
namespace Go.Proofs.YtjpjdkdbgjipnaaDoor
open Go.RowKit Go.Deep
theorem yy211 {A : Option Addr} {l : List CompV} (limit : Nat) (cap : Nat) (hl : l.length ≤ maxLen) (hg : ∀ y ∈ l, y.Good) (w : World) (h : CompsC w A cap l) :
  Calls Tryd.prog 19 #[.slice A l.length cap, .int .i64 (limit : Int)] w fun e w' => e = .returned (.int .i64 (yy35 limit l : Int)) ∧ Below w.heap.size w w' := yy273 limit cap hl hg w h.1
end Go.Proofs.YtjpjdkdbgjipnaaDoor
