/- What the document's own Do makes of nodes, and its error, as a function of what came in. No condition. (Merged of 2 texts.) -/
import Derived.Test.YtjpjdkdbgjipnaaDoorV12
import Derived.Test.YtjpjdkdbgjipnaaDoorV21
import Derived.Test.YtjpjdkdbgjipnaaDoorV43
namespace Go.Proofs.YtjpjdkdbgjipnaaDoor
open Go.RowKit Go.Deep
open Classical in
noncomputable def dErr (t : List Nat) (l : List CompV) : Nat := if rCheck l ≠ 0 then rCheck l else if ¬ ∃ vs, V t vs then 2 else if ((cps t).length : Int) ≠ rBase l then 11 else 0
noncomputable def dTxt (t : List Nat) (l : List CompV) : List Nat := if dErr t l = 0 then (doRun (cps t) l).2 else []
theorem yy281 {t : List Nat} {l : List CompV} (h : rCheck l ≠ 0) : dErr t l = rCheck l := by rw [dErr, if_pos h]
theorem yy486 {t : List Nat} {l : List CompV} (h : rCheck l = 0) (hv : ¬ ∃ vs, V t vs) : dErr t l = 2 := by rw [dErr, if_neg (by simp [h]), if_pos hv]
theorem yy378 {t vs : List Nat} {l : List CompV} (h : rCheck l = 0) (hv : V t vs) (hn : (vs.length : Int) ≠ rBase l) : dErr t l = 11 := by
 rw [dErr, if_neg (by simp [h]), if_neg (fun hh => hh ⟨vs, hv⟩), cps_of hv, if_pos hn]
theorem yy379 {t vs : List Nat} {l : List CompV} (h : rCheck l = 0) (hv : V t vs) (hn : (vs.length : Int) = rBase l) : dErr t l = 0 := by
 rw [dErr, if_neg (by simp [h]), if_neg (fun hh => hh ⟨vs, hv⟩), cps_of hv, if_neg (by simp [hn])]
theorem yy116 {t : List Nat} {l : List CompV} (h : dErr t l = 0) : rCheck l = 0 ∧ ∃ vs, V t vs ∧ (vs.length : Int) = rBase l := by
 by_cases h1 : rCheck l = 0
 ·by_cases h2 : ∃ vs, V t vs
  ·obtain ⟨vs, hv⟩ := h2
   by_cases h3 : (vs.length : Int) = rBase l
   ·exact ⟨h1, vs, hv, h3⟩
   ·rw [yy378 h1 hv h3] at h; cases h
  ·rw [yy486 h1 h2] at h; cases h
 ·rw [yy281 h1] at h; exact absurd h h1
theorem DoEnd.eq {t : List Nat} {l : List CompV} {e : Ending} (h : DoEnd t l e) : e = .returned (.tuple #[.string (bstr (dTxt t l)), .int .i64 (dErr t l : Int)]) := by
 rcases h with ⟨hz, rfl⟩ | ⟨hz, hv, rfl⟩ | ⟨hz, vs, hv, ⟨hne, rfl⟩ | ⟨heq, rfl⟩⟩
 ·rw [dTxt, yy281 hz, if_neg hz]; rfl
 ·rw [dTxt, yy486 hz hv, if_neg (by decide)]; rfl
 ·rw [dTxt, yy378 hz hv hne, if_neg (by decide)]; rfl
 ·rw [dTxt, yy379 hz hv heq, if_pos rfl, cps_of hv]; rfl
theorem yy282 {s x : List Nat} {l : List CompV} (hz : rCheck l = 0) (hx : V s x) (hn : (x.length : Int) = rBase l) : dTxt s l = E (ed l x) := by
 rw [dTxt, if_pos (yy379 hz hx hn), cps_of hx, yy655 x (ok_of hz).wh]
theorem yy283 (s : List Nat) (l : List CompV) : (∀ y ∈ dTxt s l, y < 256) ∧ (dTxt s l).length ≤ 8000 := by
 by_cases h : dErr s l = 0
 ·obtain ⟨hz, x, hx, hn⟩ := yy116 h
  have hok := ok_of hz
  have hb := hok.base
  have hlen := yy109 l x hok.wh (by omega)
  have ho := hok.out1
  have he := yy318 (ed l x)
  rw [yy282 hz hx hn]
  exact ⟨E_lt (ed_may l x hok.wh hx.may), by omega⟩
 ·rw [dTxt, if_neg h]
  exact ⟨by simp, by simp⟩
end Go.Proofs.YtjpjdkdbgjipnaaDoor
namespace Go.Proofs.YtjpjdkdbgjipnaaDoor
def rAt (l : List NodeV) (id : Int) : Nat := (l.takeWhile fun y => decide (y.id < id)).length
theorem rAt_le (l : List NodeV) (id : Int) : rAt l id ≤ l.length := (List.takeWhile_sublist _).length_le
theorem rAt_lt {l : List NodeV} {id : Int} {k : Nat} (hk : k < rAt l id) : ∃ h : k < l.length, l[k].id < id := by
 have h := Nat.lt_of_lt_of_le hk (rAt_le l id)
 refine ⟨h, ?_⟩
 have hp : (l.takeWhile fun y => decide (y.id < id)) <+: l := List.takeWhile_prefix _
 have e : (l.takeWhile fun y => decide (y.id < id))[k]'hk = l[k] := hp.getElem hk
 have := List.all_takeWhile (p := fun y => decide (y.id < id)) (l := l)
 rw [List.all_eq_true] at this
 have h2 := this _ (List.getElem_mem hk)
 rw [e] at h2
 exact of_decide_eq_true h2
theorem rAt_ge {l : List NodeV} {id : Int} (hk : rAt l id < l.length) : ¬ l[rAt l id].id < id := by
 intro h
 have e : ∀ (l : List NodeV) (hk : rAt l id < l.length), l[rAt l id].id < id → False := by
  intro l
  induction l with
  | nil => intro hk; simp at hk
  | cons y l ih =>
   intro hk h
   by_cases hy : y.id < id
   ·have hr : rAt (y :: l) id = rAt l id + 1 := by unfold rAt; rw [List.takeWhile_cons, if_pos (decide_eq_true hy)]; rfl
    simp only [hr, List.getElem_cons_succ] at h
    exact ih (by rw [hr] at hk; simpa using hk) h
   ·have hr : rAt (y :: l) id = 0 := by unfold rAt; rw [List.takeWhile_cons, if_neg (by simpa using hy)]; rfl
    simp only [hr, List.getElem_cons_zero] at h
    exact hy h
 exact e l hk h
def yy82 (a : ActV) : NodeV := ⟨a.id, a.parent, a.name, a.dir, []⟩
def IdOk (id : Int) : Prop := 1 ≤ id ∧ id ≤ 1099511627776
open Classical in
noncomputable def rDo (l : List NodeV) (a : ActV) : List NodeV × Int :=
 if a.kind = 1 then
  if ¬ (IdOk a.id ∧ IsName a.name) then (l, 1)
  else if rFind l a.id ≠ none then (l, 6)
  else if rPlace l a.parent a.name 0 ≠ 0 then (l, rPlace l a.parent a.name 0)
  else if 100 ≤ l.length then (l, 4)
  else (l.take (rAt l a.id) ++ yy82 a :: l.drop (rAt l a.id), 0)
 else if a.kind = 2 then match rFind l a.id with
  | none => (l, 5)
  | some k => if ∃ y ∈ l, y.parent = a.id then (l, 9) else (l.take k ++ l.drop (k + 1), 0)
 else if a.kind = 3 then
  if ¬ IsName a.name then (l, 1) else match rFind l a.id with
  | none => (l, 5)
  | some k => if rPlace l a.parent a.name a.id ≠ 0 then (l, rPlace l a.parent a.name a.id)
   else (l.set k { (l[k]?).getD default with parent := a.parent, name := a.name }, 0)
 else if a.kind = 4 then match rFind l a.id with
  | none => (l, 5)
  | some k => if ((l[k]?).getD default).dir = true then (l, 8)
   else if dErr ((l[k]?).getD default).text a.ops ≠ 0 then (l, (dErr ((l[k]?).getD default).text a.ops : Int))
   else if 10000 < rTotal (l.set k { (l[k]?).getD default with text := dTxt ((l[k]?).getD default).text a.ops }) then (l, 4)
   else (l.set k { (l[k]?).getD default with text := dTxt ((l[k]?).getD default).text a.ops }, 0)
 else (l, 1)
section
variable {l : List NodeV} {a : ActV}
theorem rDo_c1 (hk : a.kind = 1) (h : ¬ (IdOk a.id ∧ IsName a.name)) : rDo l a = (l, 1) := by unfold rDo; rw [if_pos hk, if_pos h]
theorem rDo_c2 (hk : a.kind = 1) (h : IdOk a.id ∧ IsName a.name) {k : Nat} (hf : rFind l a.id = some k) : rDo l a = (l, 6) := by
 unfold rDo; rw [if_pos hk, if_neg (fun g => g h), if_pos (by rw [hf]; simp)]
theorem rDo_c3 (hk : a.kind = 1) (h : IdOk a.id ∧ IsName a.name) (hf : rFind l a.id = none) (hp : rPlace l a.parent a.name 0 ≠ 0) : rDo l a = (l, rPlace l a.parent a.name 0) := by
 unfold rDo; rw [if_pos hk, if_neg (fun g => g h), if_neg (by rw [hf]; simp), if_pos hp]
theorem rDo_c4 (hk : a.kind = 1) (h : IdOk a.id ∧ IsName a.name) (hf : rFind l a.id = none) (hp : rPlace l a.parent a.name 0 = 0) (hn : 100 ≤ l.length) : rDo l a = (l, 4) := by
 unfold rDo; rw [if_pos hk, if_neg (fun g => g h), if_neg (by rw [hf]; simp), if_neg (fun g => g hp), if_pos hn]
theorem rDo_c5 (hk : a.kind = 1) (h : IdOk a.id ∧ IsName a.name) (hf : rFind l a.id = none) (hp : rPlace l a.parent a.name 0 = 0) (hn : ¬ 100 ≤ l.length) : rDo l a = (l.take (rAt l a.id) ++ yy82 a :: l.drop (rAt l a.id), 0) := by
 unfold rDo; rw [if_pos hk, if_neg (fun g => g h), if_neg (by rw [hf]; simp), if_neg (fun g => g hp), if_neg hn]
theorem rDo_r1 (hk : a.kind = 2) (hf : rFind l a.id = none) : rDo l a = (l, 5) := by
 unfold rDo; rw [if_neg (by omega), if_pos hk, hf]
theorem rDo_r2 (hk : a.kind = 2) {k : Nat} (hf : rFind l a.id = some k) (h : ∃ y ∈ l, y.parent = a.id) : rDo l a = (l, 9) := by
 unfold rDo; rw [if_neg (by omega), if_pos hk, hf]; exact if_pos h
theorem rDo_r3 (hk : a.kind = 2) {k : Nat} (hf : rFind l a.id = some k) (h : ¬ ∃ y ∈ l, y.parent = a.id) : rDo l a = (l.take k ++ l.drop (k + 1), 0) := by
 unfold rDo; rw [if_neg (by omega), if_pos hk, hf]; exact if_neg h
theorem rDo_m1 (hk : a.kind = 3) (h : ¬ IsName a.name) : rDo l a = (l, 1) := by
 unfold rDo; rw [if_neg (by omega), if_neg (by omega), if_pos hk, if_pos h]
theorem rDo_m2 (hk : a.kind = 3) (h : IsName a.name) (hf : rFind l a.id = none) : rDo l a = (l, 5) := by
 unfold rDo; rw [if_neg (by omega), if_neg (by omega), if_pos hk, if_neg (fun g => g h), hf]
theorem rDo_m3 (hk : a.kind = 3) (h : IsName a.name) {k : Nat} (hf : rFind l a.id = some k) (hp : rPlace l a.parent a.name a.id ≠ 0) : rDo l a = (l, rPlace l a.parent a.name a.id) := by
 unfold rDo; rw [if_neg (by omega), if_neg (by omega), if_pos hk, if_neg (fun g => g h), hf]; exact if_pos hp
theorem rDo_m4 (hk : a.kind = 3) (h : IsName a.name) {k : Nat} (hkl : k < l.length) (hf : rFind l a.id = some k) (hp : rPlace l a.parent a.name a.id = 0) : rDo l a = (l.set k ⟨l[k].id, a.parent, a.name, l[k].dir, l[k].text⟩, 0) := by
 unfold rDo; rw [if_neg (by omega), if_neg (by omega), if_pos hk, if_neg (fun g => g h), hf]
 show (if _ then _ else (l.set k { (l[k]?).getD default with parent := a.parent, name := a.name }, (0 : Int))) = _
 rw [if_neg (fun g => g hp), List.getElem?_eq_getElem hkl]
 rfl
theorem rDo_e1 (hk : a.kind = 4) (hf : rFind l a.id = none) : rDo l a = (l, 5) := by
 unfold rDo; rw [if_neg (by omega), if_neg (by omega), if_neg (by omega), if_pos hk, hf]
theorem rDo_e (hk : a.kind = 4) {k : Nat} (hkl : k < l.length) (hf : rFind l a.id = some k) : rDo l a = if l[k].dir = true then (l, 8)
   else if dErr l[k].text a.ops ≠ 0 then (l, (dErr l[k].text a.ops : Int))
   else if 10000 < rTotal (l.set k ⟨l[k].id, l[k].parent, l[k].name, l[k].dir, dTxt l[k].text a.ops⟩) then (l, 4)
   else (l.set k ⟨l[k].id, l[k].parent, l[k].name, l[k].dir, dTxt l[k].text a.ops⟩, 0) := by
 unfold rDo; rw [if_neg (by omega), if_neg (by omega), if_neg (by omega), if_pos hk, hf]
 show (if ((l[k]?).getD default).dir = true then _ else if dErr ((l[k]?).getD default).text a.ops ≠ 0 then (l, (dErr ((l[k]?).getD default).text a.ops : Int)) else if 10000 < rTotal (l.set k { (l[k]?).getD default with text := dTxt ((l[k]?).getD default).text a.ops }) then _ else (l.set k { (l[k]?).getD default with text := dTxt ((l[k]?).getD default).text a.ops }, (0 : Int))) = _
 rw [List.getElem?_eq_getElem hkl]
 rfl
theorem rDo_o (h1 : a.kind ≠ 1) (h2 : a.kind ≠ 2) (h3 : a.kind ≠ 3) (h4 : a.kind ≠ 4) : rDo l a = (l, 1) := by
 unfold rDo; rw [if_neg h1, if_neg h2, if_neg h3, if_neg h4]
end
attribute [irreducible] rDo rAt
end Go.Proofs.YtjpjdkdbgjipnaaDoor
