/- What a tree of nodes is, in the document's words, as a property of a list. No condition. (Merged of 7 texts.) -/
import Derived.Test.YtmedaimndaaiiaaMPt
import Derived.Test.YtmedaimndaaiiaaMUm
import Derived.Test.YtmedaimndaaiiaaMOm
import Derived.Test.YtmedaimndaaiiaaMCells
import Derived.Test.YtmedaimndaaiiaaMBase
/- The document's own Count of any bytes, and Total of nodes; place: what may stand where. Conditions: no more than 2^20 nodes, no text of more than 2^40 bytes. -/
namespace Go.Proofs.Ytmedaimndaaiiaa
open Go.RowKit Go.Deep

theorem cps_none {l : List Nat} (h : ¬ ∃ vs, V l vs) : cps l = [] := by
  unfold cps
  rw [dif_neg h]
theorem cps_le (l : List Nat) : (cps l).length ≤ l.length := by
  by_cases h : ∃ vs, V l vs
  · obtain ⟨vs, h⟩ := h
    rw [cps_of h]
    exact h.length_le
  · rw [cps_none h]
    exact Nat.zero_le _
noncomputable def rTotal (l : List NodeV) : Nat := (l.map fun y => (cps y.text).length).sum
theorem total_take (l : List NodeV) {k : Nat} (h : k < l.length) : rTotal (l.take (k + 1)) = rTotal (l.take k) + (cps l[k].text).length := by
  unfold rTotal
  rw [List.take_succ_eq_append_getElem h, List.map_append, List.sum_append]
  simp
theorem total_bound {l : List NodeV} (ht : ∀ y ∈ l, y.text.length ≤ 1099511627776) : ∀ k, k ≤ l.length → rTotal (l.take k) ≤ k * 1099511627776 := by
  intro k
  induction k with
  | zero => intro _; rw [List.take_zero]; exact Nat.zero_le _
  | succ k ih =>
    intro hk
    have h1 := ih (by omega)
    have h2 := cps_le (l[k]'hk).text
    have h3 := ht _ (List.getElem_mem (show k < l.length from hk))
    rw [total_take l hk]
    omega
attribute [irreducible] rTotal
theorem total_nil : rTotal ([] : List NodeV) = 0 := by unfold rTotal; rfl

/-- What stands against something's place: the parent. -/
def rUp (l : List NodeV) (parent id : Int) : Int := if parent = 0 then 0 else match rFind l parent with
  | none => 5
  | some k => if ((l[k]?).getD default).dir = false then 8 else if 0 < id ∧ rWithin l parent id = true then 10 else 0
def rPlace (l : List NodeV) (parent : Int) (name : List Nat) (id : Int) : Int :=
  if rUp l parent id = 0 then (if 0 ≤ rChild l parent name ∧ rChild l parent name ≠ id then 6 else 0) else rUp l parent id
theorem rUp_root (l : List NodeV) (id : Int) : rUp l 0 id = 0 := if_pos rfl
theorem rUp_none {l : List NodeV} {parent : Int} (id : Int) (h : parent ≠ 0) (hf : rFind l parent = none) : rUp l parent id = 5 := by
  unfold rUp; rw [if_neg h, hf]
theorem rUp_some {l : List NodeV} {parent : Int} (id : Int) {k : Nat} (hk : k < l.length) (h : parent ≠ 0) (hf : rFind l parent = some k) : rUp l parent id = if l[k].dir = false then 8 else if 0 < id ∧ rWithin l parent id = true then 10 else 0 := by
  unfold rUp
  rw [if_neg h, hf]
  show (if ((l[k]?).getD default).dir = false then _ else _) = _
  rw [List.getElem?_eq_getElem hk]
  rfl
theorem rPlace_up {l : List NodeV} {parent id : Int} {name : List Nat} {u : Int} (h : rUp l parent id = u) (h0 : u ≠ 0) : rPlace l parent name id = u := by
  unfold rPlace; rw [h, if_neg h0]
theorem rPlace_there {l : List NodeV} {parent id : Int} {name : List Nat} (h : rUp l parent id = 0) (h1 : 0 ≤ rChild l parent name) (h2 : rChild l parent name ≠ id) : rPlace l parent name id = 6 := by
  unfold rPlace; rw [h, if_pos rfl, if_pos ⟨h1, h2⟩]
theorem rPlace_ok {l : List NodeV} {parent id : Int} {name : List Nat} (h : rUp l parent id = 0) (h1 : rChild l parent name < 0 ∨ rChild l parent name = id) : rPlace l parent name id = 0 := by
  unfold rPlace; rw [h, if_pos rfl, if_neg (by omega)]
attribute [irreducible] rUp rPlace
end Go.Proofs.Ytmedaimndaaiiaa

/- What the document's own Do makes of nodes, and its error, as a function of what came in. No condition. -/
namespace Go.Proofs.Ytmedaimndaaiiaa

/-- How many nodes stand ahead of an ID. -/
def rAt (l : List NodeV) (id : Int) : Nat := (l.takeWhile fun y => decide (y.id < id)).length
theorem rAt_le (l : List NodeV) (id : Int) : rAt l id ≤ l.length := (List.takeWhile_sublist _).length_le
theorem rAt_lt {l : List NodeV} {id : Int} {k : Nat} (hk : k < rAt l id) : ∃ h : k < l.length, l[k].id < id := by
  have h := Nat.lt_of_lt_of_le hk (rAt_le l id)
  refine ⟨h, ?_⟩
  have hp : (l.takeWhile fun y => decide (y.id < id)) <+: l := List.takeWhile_prefix _
  have e : (l.takeWhile fun y => decide (y.id < id))[k]'hk = l[k] := hp.getElem hk
  have := List.all_takeWhile (p := fun y => decide (y.id < id)) (l := l)
  rw [List.all_eq_true] at this
  have h2 := this _ (List.getElem_mem hk)
  rw [e] at h2
  exact of_decide_eq_true h2
theorem rAt_ge {l : List NodeV} {id : Int} (hk : rAt l id < l.length) : ¬ l[rAt l id].id < id := by
  intro h
  have e : ∀ (l : List NodeV) (hk : rAt l id < l.length), l[rAt l id].id < id → False := by
    intro l
    induction l with
    | nil => intro hk; simp at hk
    | cons y l ih =>
      intro hk h
      by_cases hy : y.id < id
      · have hr : rAt (y :: l) id = rAt l id + 1 := by unfold rAt; rw [List.takeWhile_cons, if_pos (decide_eq_true hy)]; rfl
        simp only [hr, List.getElem_cons_succ] at h
        exact ih (by rw [hr] at hk; simpa using hk) h
      · have hr : rAt (y :: l) id = 0 := by unfold rAt; rw [List.takeWhile_cons, if_neg (by simpa using hy)]; rfl
        simp only [hr, List.getElem_cons_zero] at h
        exact hy h
  exact e l hk h
/-- What Create puts in. -/
def newNode (a : ActV) : NodeV := ⟨a.id, a.parent, a.name, a.dir, []⟩
def IdOk (id : Int) : Prop := 1 ≤ id ∧ id ≤ 1099511627776
open Classical in
noncomputable def rDo (l : List NodeV) (a : ActV) : List NodeV × Int :=
  if a.kind = 1 then
    if ¬ (IdOk a.id ∧ IsName a.name) then (l, 1)
    else if rFind l a.id ≠ none then (l, 6)
    else if rPlace l a.parent a.name 0 ≠ 0 then (l, rPlace l a.parent a.name 0)
    else if 100 ≤ l.length then (l, 4)
    else (l.take (rAt l a.id) ++ newNode a :: l.drop (rAt l a.id), 0)
  else if a.kind = 2 then match rFind l a.id with
    | none => (l, 5)
    | some k => if ∃ y ∈ l, y.parent = a.id then (l, 9) else (l.take k ++ l.drop (k + 1), 0)
  else if a.kind = 3 then
    if ¬ IsName a.name then (l, 1) else match rFind l a.id with
    | none => (l, 5)
    | some k => if rPlace l a.parent a.name a.id ≠ 0 then (l, rPlace l a.parent a.name a.id)
      else (l.set k { (l[k]?).getD default with parent := a.parent, name := a.name }, 0)
  else if a.kind = 4 then match rFind l a.id with
    | none => (l, 5)
    | some k => if ((l[k]?).getD default).dir = true then (l, 8)
      else if dErr ((l[k]?).getD default).text a.ops ≠ 0 then (l, (dErr ((l[k]?).getD default).text a.ops : Int))
      else if 10000 < rTotal (l.set k { (l[k]?).getD default with text := dTxt ((l[k]?).getD default).text a.ops }) then (l, 4)
      else (l.set k { (l[k]?).getD default with text := dTxt ((l[k]?).getD default).text a.ops }, 0)
  else (l, 1)
section
variable {l : List NodeV} {a : ActV}
theorem rDo_c1 (hk : a.kind = 1) (h : ¬ (IdOk a.id ∧ IsName a.name)) : rDo l a = (l, 1) := by unfold rDo; rw [if_pos hk, if_pos h]
theorem rDo_c2 (hk : a.kind = 1) (h : IdOk a.id ∧ IsName a.name) {k : Nat} (hf : rFind l a.id = some k) : rDo l a = (l, 6) := by
  unfold rDo; rw [if_pos hk, if_neg (fun g => g h), if_pos (by rw [hf]; simp)]
theorem rDo_c3 (hk : a.kind = 1) (h : IdOk a.id ∧ IsName a.name) (hf : rFind l a.id = none) (hp : rPlace l a.parent a.name 0 ≠ 0) : rDo l a = (l, rPlace l a.parent a.name 0) := by
  unfold rDo; rw [if_pos hk, if_neg (fun g => g h), if_neg (by rw [hf]; simp), if_pos hp]
theorem rDo_c4 (hk : a.kind = 1) (h : IdOk a.id ∧ IsName a.name) (hf : rFind l a.id = none) (hp : rPlace l a.parent a.name 0 = 0) (hn : 100 ≤ l.length) : rDo l a = (l, 4) := by
  unfold rDo; rw [if_pos hk, if_neg (fun g => g h), if_neg (by rw [hf]; simp), if_neg (fun g => g hp), if_pos hn]
theorem rDo_c5 (hk : a.kind = 1) (h : IdOk a.id ∧ IsName a.name) (hf : rFind l a.id = none) (hp : rPlace l a.parent a.name 0 = 0) (hn : ¬ 100 ≤ l.length) : rDo l a = (l.take (rAt l a.id) ++ newNode a :: l.drop (rAt l a.id), 0) := by
  unfold rDo; rw [if_pos hk, if_neg (fun g => g h), if_neg (by rw [hf]; simp), if_neg (fun g => g hp), if_neg hn]
theorem rDo_r1 (hk : a.kind = 2) (hf : rFind l a.id = none) : rDo l a = (l, 5) := by
  unfold rDo; rw [if_neg (by omega), if_pos hk, hf]
theorem rDo_r2 (hk : a.kind = 2) {k : Nat} (hf : rFind l a.id = some k) (h : ∃ y ∈ l, y.parent = a.id) : rDo l a = (l, 9) := by
  unfold rDo; rw [if_neg (by omega), if_pos hk, hf]; exact if_pos h
theorem rDo_r3 (hk : a.kind = 2) {k : Nat} (hf : rFind l a.id = some k) (h : ¬ ∃ y ∈ l, y.parent = a.id) : rDo l a = (l.take k ++ l.drop (k + 1), 0) := by
  unfold rDo; rw [if_neg (by omega), if_pos hk, hf]; exact if_neg h
theorem rDo_m1 (hk : a.kind = 3) (h : ¬ IsName a.name) : rDo l a = (l, 1) := by
  unfold rDo; rw [if_neg (by omega), if_neg (by omega), if_pos hk, if_pos h]
theorem rDo_m2 (hk : a.kind = 3) (h : IsName a.name) (hf : rFind l a.id = none) : rDo l a = (l, 5) := by
  unfold rDo; rw [if_neg (by omega), if_neg (by omega), if_pos hk, if_neg (fun g => g h), hf]
theorem rDo_m3 (hk : a.kind = 3) (h : IsName a.name) {k : Nat} (hf : rFind l a.id = some k) (hp : rPlace l a.parent a.name a.id ≠ 0) : rDo l a = (l, rPlace l a.parent a.name a.id) := by
  unfold rDo; rw [if_neg (by omega), if_neg (by omega), if_pos hk, if_neg (fun g => g h), hf]; exact if_pos hp
theorem rDo_m4 (hk : a.kind = 3) (h : IsName a.name) {k : Nat} (hkl : k < l.length) (hf : rFind l a.id = some k) (hp : rPlace l a.parent a.name a.id = 0) : rDo l a = (l.set k ⟨l[k].id, a.parent, a.name, l[k].dir, l[k].text⟩, 0) := by
  unfold rDo; rw [if_neg (by omega), if_neg (by omega), if_pos hk, if_neg (fun g => g h), hf]
  show (if _ then _ else (l.set k { (l[k]?).getD default with parent := a.parent, name := a.name }, (0 : Int))) = _
  rw [if_neg (fun g => g hp), List.getElem?_eq_getElem hkl]
  rfl
theorem rDo_e1 (hk : a.kind = 4) (hf : rFind l a.id = none) : rDo l a = (l, 5) := by
  unfold rDo; rw [if_neg (by omega), if_neg (by omega), if_neg (by omega), if_pos hk, hf]
theorem rDo_e (hk : a.kind = 4) {k : Nat} (hkl : k < l.length) (hf : rFind l a.id = some k) : rDo l a = if l[k].dir = true then (l, 8)
      else if dErr l[k].text a.ops ≠ 0 then (l, (dErr l[k].text a.ops : Int))
      else if 10000 < rTotal (l.set k ⟨l[k].id, l[k].parent, l[k].name, l[k].dir, dTxt l[k].text a.ops⟩) then (l, 4)
      else (l.set k ⟨l[k].id, l[k].parent, l[k].name, l[k].dir, dTxt l[k].text a.ops⟩, 0) := by
  unfold rDo; rw [if_neg (by omega), if_neg (by omega), if_neg (by omega), if_pos hk, hf]
  show (if ((l[k]?).getD default).dir = true then _ else if dErr ((l[k]?).getD default).text a.ops ≠ 0 then (l, (dErr ((l[k]?).getD default).text a.ops : Int)) else if 10000 < rTotal (l.set k { (l[k]?).getD default with text := dTxt ((l[k]?).getD default).text a.ops }) then _ else (l.set k { (l[k]?).getD default with text := dTxt ((l[k]?).getD default).text a.ops }, (0 : Int))) = _
  rw [List.getElem?_eq_getElem hkl]
  rfl
theorem rDo_o (h1 : a.kind ≠ 1) (h2 : a.kind ≠ 2) (h3 : a.kind ≠ 3) (h4 : a.kind ≠ 4) : rDo l a = (l, 1) := by
  unfold rDo; rw [if_neg h1, if_neg h2, if_neg h3, if_neg h4]
end
attribute [irreducible] rDo rAt
end Go.Proofs.Ytmedaimndaaiiaa

/- The document's own Name. Condition: no more than 2^40 bytes. -/
namespace Go.Proofs.Ytmedaimndaaiiaa
open Go.RowKit Go.Deep

theorem bstr_list_eq {s t : List Nat} (hs : ∀ x ∈ s, x < 256) (ht : ∀ x ∈ t, x < 256) : ((bstr s).toList == (bstr t).toList) = decide (s = t) := by
  by_cases h : s = t
  · subst h
    rw [decide_eq_true rfl]
    exact beq_self_eq_true _
  · rw [decide_eq_false h]
    exact bstr_neq fun e => h (bstr_inj _ _ hs ht e)
end Go.Proofs.Ytmedaimndaaiiaa

/- The document's own place: may something stand at a name in a parent? Conditions: no more than 2^20 nodes, nodes that may be. -/
namespace Go.Proofs.Ytmedaimndaaiiaa
open Go.RowKit Go.Deep

end Go.Proofs.Ytmedaimndaaiiaa

/- The document's own Do, over nodes: the ways that refuse. Conditions: no more than 2^20 nodes, nodes and acts that may be. -/
namespace Go.Proofs.Ytmedaimndaaiiaa
open Go.RowKit Go.Deep

/-- What Do answers: the nodes of a pair, and its error. -/
def NDo (w' : World) (R : List NodeV × Int) (e : Ending) : Prop := ∃ A' c', e = .returned (.tuple #[.slice A' R.1.length c', .int .i64 R.2]) ∧ NodesC w' A' c' R.1

end Go.Proofs.Ytmedaimndaaiiaa

/- The document's own order of children, as a function: by their names, put in one by one. No condition. -/
namespace Go.Proofs.Ytmedaimndaaiiaa

theorem less_irrefl : ∀ x : List UInt8, Op.bytesLess x x = false
  | [] => rfl
  | a :: x => by
    rw [Op.bytesLess, less_irrefl x]
    have : ¬ a < a := by rw [UInt8.lt_iff_toNat_lt]; omega
    simp
theorem less_trans : ∀ {x y z : List UInt8}, Op.bytesLess x y = true → Op.bytesLess y z = true → Op.bytesLess x z = true
  | _, [], _, h, _ => by rw [Op.bytesLess] at h; cases h
  | _, b :: y, [], _, h => by rw [Op.bytesLess] at h; cases h
  | [], b :: y, c :: z, _, _ => rfl
  | a :: x, b :: y, c :: z, h, g => by
    rw [Op.bytesLess] at h g ⊢
    simp only [Bool.or_eq_true, Bool.and_eq_true, beq_iff_eq, decide_eq_true_eq] at h g ⊢
    rw [UInt8.lt_iff_toNat_lt] at h g ⊢
    rcases h with h | ⟨rfl, h⟩
    · rcases g with g | ⟨rfl, g⟩
      · exact .inl (by omega)
      · exact .inl h
    · rcases g with g | ⟨rfl, g⟩
      · exact .inl g
      · exact .inr ⟨rfl, less_trans h g⟩
theorem less_total : ∀ {x y : List UInt8}, Op.bytesLess x y = false → Op.bytesLess y x = false → x = y
  | [], [], _, _ => rfl
  | [], b :: y, h, _ => by rw [Op.bytesLess] at h; cases h
  | a :: x, [], _, h => by rw [Op.bytesLess] at h; cases h
  | a :: x, b :: y, h, g => by
    rw [Op.bytesLess] at h g
    simp only [Bool.or_eq_false_iff, Bool.and_eq_false_iff, decide_eq_false_iff_not, beq_eq_false_iff_ne] at h g
    have h1 := h.1
    have g1 := g.1
    rw [UInt8.lt_iff_toNat_lt] at h1 g1
    have e : a = b := UInt8.toNat_inj.1 (by omega)
    subst e
    rcases h.2 with h2 | h2
    · exact absurd rfl h2
    · rcases g.2 with g2 | g2
      · exact absurd rfl g2
      · rw [less_total h2 g2]
/-- Is a name ahead of another one? -/
def lessB (a b : List Nat) : Bool := Op.bytesLess (bstr a).toList (bstr b).toList
theorem lessB_self (a : List Nat) : lessB a a = false := less_irrefl _
theorem lessB_trans {a b c : List Nat} (h : lessB a b = true) (g : lessB b c = true) : lessB a c = true := less_trans h g
theorem lessB_asymm {a b : List Nat} (h : lessB a b = true) : lessB b a = false := by
  cases g : lessB b a with
  | false => rfl
  | true => have := lessB_trans h g; rw [lessB_self] at this; cases this
/-- Where a name goes: ahead of all that are behind it. -/
def kAt (n : List Nat) (ns : List (List Nat)) : Nat → Nat
  | 0 => 0
  | k + 1 => if lessB n (ns[k]?.getD []) = true then kAt n ns k else k + 1
theorem kAt_le (n : List Nat) (ns : List (List Nat)) : ∀ k, kAt n ns k ≤ k
  | 0 => Nat.le_refl _
  | k + 1 => by
    rw [kAt]
    split
    · have := kAt_le n ns k; omega
    · exact Nat.le_refl _
theorem kAt_yes {n : List Nat} {ns : List (List Nat)} {k : Nat} (hk : k < ns.length) (h : lessB n ns[k] = true) : kAt n ns (k + 1) = kAt n ns k := by
  rw [kAt, List.getElem?_eq_getElem hk, Option.getD_some, if_pos h]
theorem kAt_no {n : List Nat} {ns : List (List Nat)} {k : Nat} (hk : k < ns.length) (h : lessB n ns[k] = false) : kAt n ns (k + 1) = k + 1 := by
  rw [kAt, List.getElem?_eq_getElem hk, Option.getD_some, if_neg (by rw [h]; simp)]
theorem kAt_zero (n : List Nat) (ns : List (List Nat)) : kAt n ns 0 = 0 := rfl
/-- All from there on stand behind the name. -/
theorem kAt_behind {n : List Nat} {ns : List (List Nat)} : ∀ {k : Nat}, k ≤ ns.length → ∀ (j : Nat) (hj : j < ns.length), kAt n ns k ≤ j → j < k → lessB n ns[j] = true
  | 0, _, j, _, _, h => by omega
  | k + 1, hk, j, hj, h1, h2 => by
    cases h : lessB n (ns[k]'(by omega)) with
    | true =>
      rw [kAt_yes (by omega) h] at h1
      by_cases e : j = k
      · subst e; exact h
      · exact kAt_behind (by omega) j hj h1 (by omega)
    | false =>
      rw [kAt_no (by omega) h] at h1
      omega
/-- The one ahead of it does not. -/
theorem kAt_ahead {n : List Nat} {ns : List (List Nat)} : ∀ {k : Nat} (hk : k ≤ ns.length) (h : 0 < kAt n ns k), lessB n (ns[kAt n ns k - 1]'(by have := kAt_le n ns k; omega)) = false
  | 0, _, h => by rw [kAt_zero] at h; omega
  | k + 1, hk, h => by
    cases g : lessB n (ns[k]'(by omega)) with
    | true =>
      have e := kAt_yes (by omega) g
      simp only [e] at h ⊢
      exact kAt_ahead (by omega) h
    | false =>
      have e := kAt_no (by omega) g
      simp only [e]
      exact g
/-- A node put in among others. -/
def kPut (acc : List NodeV) (x : NodeV) : List NodeV := acc.take (kAt x.name (acc.map fun y => y.name) acc.length) ++ x :: acc.drop (kAt x.name (acc.map fun y => y.name) acc.length)
def kStep (p : Int) (acc : List NodeV) (x : NodeV) : List NodeV := if x.parent = p then kPut acc x else acc
/-- The children of p among the first n nodes, by their names. -/
def kids (l : List NodeV) (p : Int) (n : Nat) : List NodeV := (l.take n).foldl (kStep p) []
theorem kids_zero (l : List NodeV) (p : Int) : kids l p 0 = [] := by unfold kids; rw [List.take_zero]; rfl
theorem kids_succ {l : List NodeV} (p : Int) {n : Nat} (h : n < l.length) : kids l p (n + 1) = kStep p (kids l p n) l[n] := by
  unfold kids
  rw [List.take_succ_eq_append_getElem h, List.foldl_append]
  rfl
theorem kPut_mem {acc : List NodeV} {x y : NodeV} : y ∈ kPut acc x ↔ y = x ∨ y ∈ acc := by
  unfold kPut
  generalize kAt x.name (acc.map fun y => y.name) acc.length = k
  have h : y ∈ acc ↔ y ∈ acc.take k ∨ y ∈ acc.drop k := by rw [← List.mem_append, List.take_append_drop]
  rw [List.mem_append, List.mem_cons, h]
  constructor
  · rintro (g | g | g)
    · exact .inr (.inl g)
    · exact .inl g
    · exact .inr (.inr g)
  · rintro (g | g | g)
    · exact .inr (.inl g)
    · exact .inl g
    · exact .inr (.inr g)
theorem kPut_length (acc : List NodeV) (x : NodeV) : (kPut acc x).length = acc.length + 1 := by
  unfold kPut
  generalize kAt x.name (acc.map fun y => y.name) acc.length = k
  have h : (acc.take k).length + (acc.drop k).length = acc.length := by rw [← List.length_append, List.take_append_drop]
  rw [List.length_append, List.length_cons]
  omega
theorem kids_mem {l : List NodeV} {p : Int} {y : NodeV} : ∀ {n : Nat}, n ≤ l.length → (y ∈ kids l p n ↔ y ∈ l.take n ∧ y.parent = p)
  | 0, _ => by rw [kids_zero, List.take_zero]; simp
  | n + 1, h => by
    rw [kids_succ p h, List.take_succ_eq_append_getElem h, List.mem_append, List.mem_singleton]
    unfold kStep
    split
    · rename_i e
      rw [kPut_mem, kids_mem (by omega)]
      constructor
      · rintro (rfl | ⟨g, g2⟩)
        · exact ⟨.inr rfl, e⟩
        · exact ⟨.inl g, g2⟩
      · rintro ⟨g | g, g2⟩
        · exact .inr ⟨g, g2⟩
        · exact .inl g
    · rename_i e
      rw [kids_mem (by omega)]
      constructor
      · rintro ⟨g, g2⟩; exact ⟨.inl g, g2⟩
      · rintro ⟨g | g, g2⟩
        · exact ⟨g, g2⟩
        · rw [g] at g2; exact absurd g2 e
theorem kids_length {l : List NodeV} {p : Int} : ∀ {n : Nat}, n ≤ l.length → (kids l p n).length = ((l.take n).filter fun y => decide (y.parent = p)).length
  | 0, _ => by rw [kids_zero, List.take_zero]; rfl
  | n + 1, h => by
    rw [kids_succ p h, List.take_succ_eq_append_getElem h, List.filter_append, List.length_append, ← kids_length (by omega)]
    unfold kStep
    split
    · rename_i e
      rw [kPut_length, List.filter_cons, if_pos (by simpa using e)]
      rfl
    · rename_i e
      rw [List.filter_cons, if_neg (by simpa using e)]
      rfl
end Go.Proofs.Ytmedaimndaaiiaa

/- What a tree of nodes is, in the document's words, as a property of a list. No condition. -/
namespace Go.Proofs.Ytmedaimndaaiiaa

/-- What is asked of a node by itself, and beside the one ahead of it. -/
def HeadOk (l : List NodeV) (k : Nat) (x : NodeV) : Prop :=
  1 ≤ x.id ∧ x.id ≤ 1099511627776 ∧ (∀ j, j + 1 = k → ∀ y, l[j]? = some y → y.id < x.id) ∧ IsName x.name ∧ rChild l x.parent x.name = x.id ∧ (x.dir = true → x.text = []) ∧ x.text.length ≤ 8000 ∧ validB x.text = true
/-- What is asked of its parent. -/
def UpOk (l : List NodeV) (x : NodeV) : Prop := x.parent = 0 ∨ ∃ q, ∃ hq : q < l.length, rFind l x.parent = some q ∧ l[q].dir = true ∧ rWithin l x.parent x.id = false
def NodeOk (l : List NodeV) (k : Nat) (x : NodeV) : Prop := HeadOk l k x ∧ (cps x.text).length ≤ 2000 ∧ rTotal (l.take (k + 1)) ≤ 10000 ∧ UpOk l x
def SoundN (l : List NodeV) : Prop := l.length ≤ 100 ∧ ∀ (k : Nat) (hk : k < l.length), NodeOk l k l[k]
noncomputable def rSound (l : List NodeV) : Bool := @decide (SoundN l) (Classical.propDecidable _)
theorem rSound_yes {l : List NodeV} (h : SoundN l) : rSound l = true := by unfold rSound; exact @decide_eq_true _ (Classical.propDecidable _) h
theorem rSound_no {l : List NodeV} (h : ¬ SoundN l) : rSound l = false := by unfold rSound; exact @decide_eq_false _ (Classical.propDecidable _) h
theorem sound_of {l : List NodeV} (h : rSound l = true) : SoundN l := by
  unfold rSound at h
  exact @of_decide_eq_true _ (Classical.propDecidable _) h
noncomputable def headB (l : List NodeV) (k : Nat) (x : NodeV) : Bool := @decide (¬ HeadOk l k x) (Classical.propDecidable _)
theorem headB_bad {l : List NodeV} {k : Nat} {x : NodeV} (h : ¬ HeadOk l k x) : headB l k x = true := by unfold headB; exact @decide_eq_true _ (Classical.propDecidable _) h
theorem headB_ok {l : List NodeV} {k : Nat} {x : NodeV} (h : HeadOk l k x) : headB l k x = false := by unfold headB; exact @decide_eq_false _ (Classical.propDecidable _) (fun g => g h)
end Go.Proofs.Ytmedaimndaaiiaa
