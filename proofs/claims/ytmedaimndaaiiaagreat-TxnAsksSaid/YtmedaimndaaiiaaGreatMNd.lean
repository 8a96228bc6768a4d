/- What a tree of nodes is, in the document's words, as a property of a list. No condition. (Merged of 7 texts.) -/
import Derived.Test.YtmedaimndaaiiaaGreatMPt
import Derived.Test.YtmedaimndaaiiaaGreatMUm
import Derived.Test.YtmedaimndaaiiaaGreatMOm
import Derived.Test.YtmedaimndaaiiaaGreatMCells
import Derived.Test.YtmedaimndaaiiaaGreatMBase
/- The document's own Count of any bytes, and Total of nodes; place: what may stand where. Conditions: no more than 2^20 nodes, no text of more than 2^40 bytes. -/
namespace Go.Proofs.YtmedaimndaaiiaaGreat
open Go.RowKit Go.Deep

theorem cps_none {l : List Nat} (h : ¬ ∃ vs, V l vs) : cps l = [] := by
  unfold cps
  rw [dif_neg h]
theorem cps_le (l : List Nat) : (cps l).length ≤ l.length := by
  by_cases h : ∃ vs, V l vs
  · obtain ⟨vs, h⟩ := h
    rw [cps_of h]
    exact h.length_le
  · rw [cps_none h]
    exact Nat.zero_le _
set_option maxRecDepth 100000 in
theorem refCount_all (l : List Nat) (hb : ∀ x ∈ l, x < 256) (hl : l.length ≤ 1099511627776) (w : World) :
    Calls Tryz.prog 37 #[.string (bstr l)] w fun e w' => e = .returned (.int .i64 (((cps l).length : Nat) : Int)) ∧ Below w.heap.size w w' := by
  have HP := Lib.hid (refPoints_any l hb hl w)
  have HC := cps_le l
  have hcb : (cps l).length ≤ 1099511627776 := by omega
  clear HC
  go_enter Tryz.func37, Tryz.ntmps37
  go_wp2_with fail
  refine HP.out.mono ?_
  rintro e w1 ⟨⟨ws, hv, A, c, rfl, _⟩ | ⟨hn, rfl⟩, hbel⟩
  · rw [nz_length]
    have HV := Lib.hid (cps_of hv)
    clear hv
    go_wp2
    go_ret
    exact ⟨by rw [HV.out]; rfl, hbel⟩
  · have HV := Lib.hid (cps_none hn)
    clear hn
    go_wp2
    go_ret
    exact ⟨by rw [HV.out]; rfl, hbel⟩
noncomputable def rTotal (l : List NodeV) : Nat := (l.map fun y => (cps y.text).length).sum
theorem total_take (l : List NodeV) {k : Nat} (h : k < l.length) : rTotal (l.take (k + 1)) = rTotal (l.take k) + (cps l[k].text).length := by
  unfold rTotal
  rw [List.take_succ_eq_append_getElem h, List.map_append, List.sum_append]
  simp
theorem total_bound {l : List NodeV} (ht : ∀ y ∈ l, y.text.length ≤ 1099511627776) : ∀ k, k ≤ l.length → rTotal (l.take k) ≤ k * 1099511627776 := by
  intro k
  induction k with
  | zero => intro _; rw [List.take_zero]; exact Nat.zero_le _
  | succ k ih =>
    intro hk
    have h1 := ih (by omega)
    have h2 := cps_le (l[k]'hk).text
    have h3 := ht _ (List.getElem_mem (show k < l.length from hk))
    rw [total_take l hk]
    omega
attribute [irreducible] rTotal
theorem total_nil : rTotal ([] : List NodeV) = 0 := by unfold rTotal; rfl

set_option maxHeartbeats 1000000 in
set_option maxRecDepth 100000 in
theorem refTotal_any (A : Option Addr) (c : Nat) (l : List NodeV) (hl : l.length ≤ 1048576) (hg : ∀ y ∈ l, y.Good) (ht : ∀ y ∈ l, y.text.length ≤ 1099511627776) (w : World) (hA : NodesAt w A l) :
    Calls Tryz.prog 86 #[.slice A l.length c] w fun e w' => e = .returned (.int .i64 ((rTotal l : Nat) : Int)) ∧ Below w.heap.size w w' := by
  have HA := Lib.hid hA; clear hA
  have HG := Lib.hid hg; clear hg
  have HTX := Lib.hid ht; clear ht
  have HBD := Lib.hid (fun k h => total_bound HTX.out k h)
  go_enter Tryz.func86, Tryz.ntmps86
  go_wp2
  go_loopw [3, 4] (fun t i wr => ∃ (k m : Nat), k ≤ l.length ∧ t = .int .i64 (m : Int) ∧ i = .int .i64 (k : Int) ∧ Hid (rTotal (l.take k) = m) ∧ Hid (Below w.heap.size w wr)) (fun _ i _ => l.length - (intOf i).toNat)
  case atStart => exact ⟨0, 0, Nat.zero_le _, rfl, rfl, by rw [List.take_zero]; exact Lib.hid total_nil, Lib.hid (Below.refl _ _)⟩
  case round =>
    obtain ⟨k, m, hk, rfl, rfl, HM, HB⟩ := hrel
    by_cases hlt : k < l.length
    · obtain ⟨b, off, rfl, _⟩ := HA.out.form (by omega)
      have hc4 := ((HA.out.below HB.out).at_ hlt).2.2.2.2
      have hmem := List.getElem_mem hlt
      have GC := Lib.hid (fun w => refCount_all l[k].text (HG.out _ hmem).2.2.2.1 (HTX.out _ hmem) w)
      have HS := Lib.hid (total_take l hlt)
      have h1 := HBD.out (k + 1) hlt
      rw [HM.out] at HS
      generalize l[k].text = tx at hc4 GC HS
      generalize (cps tx).length = n at GC HS
      have hmn : (m : Int) + (n : Int) ≤ 1152921504606846976 := by have := HS.out; omega
      clear h1 hmem
      go_wp2_with fail
      refine (GC.out _).mono ?_
      rintro e w1 ⟨rfl, hb⟩
      have HB1 := Lib.hid (HB.out.trans (hb.mono HB.out.size))
      clear hb
      go_wp2
      go_roundw
      case rel => exact ⟨k + 1, m + n, by omega, by go_num, by go_num, HS, HB1⟩
      case measure => simp [intOf]; omega
    · have HR : Hid (rTotal l = m) := by
        show _ = _
        rw [← HM.out, List.take_of_length_le (by omega)]
      go_wp2
      go_ret
      exact ⟨by rw [HR.out]; rfl, HB.out⟩

/-- What stands against something's place: the parent. -/
def rUp (l : List NodeV) (parent id : Int) : Int := if parent = 0 then 0 else match rFind l parent with
  | none => 5
  | some k => if ((l[k]?).getD default).dir = false then 8 else if 0 < id ∧ rWithin l parent id = true then 10 else 0
def rPlace (l : List NodeV) (parent : Int) (name : List Nat) (id : Int) : Int :=
  if rUp l parent id = 0 then (if 0 ≤ rChild l parent name ∧ rChild l parent name ≠ id then 6 else 0) else rUp l parent id
theorem rUp_root (l : List NodeV) (id : Int) : rUp l 0 id = 0 := if_pos rfl
theorem rUp_none {l : List NodeV} {parent : Int} (id : Int) (h : parent ≠ 0) (hf : rFind l parent = none) : rUp l parent id = 5 := by
  unfold rUp; rw [if_neg h, hf]
theorem rUp_some {l : List NodeV} {parent : Int} (id : Int) {k : Nat} (hk : k < l.length) (h : parent ≠ 0) (hf : rFind l parent = some k) : rUp l parent id = if l[k].dir = false then 8 else if 0 < id ∧ rWithin l parent id = true then 10 else 0 := by
  unfold rUp
  rw [if_neg h, hf]
  show (if ((l[k]?).getD default).dir = false then _ else _) = _
  rw [List.getElem?_eq_getElem hk]
  rfl
theorem rPlace_up {l : List NodeV} {parent id : Int} {name : List Nat} {u : Int} (h : rUp l parent id = u) (h0 : u ≠ 0) : rPlace l parent name id = u := by
  unfold rPlace; rw [h, if_neg h0]
theorem rPlace_there {l : List NodeV} {parent id : Int} {name : List Nat} (h : rUp l parent id = 0) (h1 : 0 ≤ rChild l parent name) (h2 : rChild l parent name ≠ id) : rPlace l parent name id = 6 := by
  unfold rPlace; rw [h, if_pos rfl, if_pos ⟨h1, h2⟩]
theorem rPlace_ok {l : List NodeV} {parent id : Int} {name : List Nat} (h : rUp l parent id = 0) (h1 : rChild l parent name < 0 ∨ rChild l parent name = id) : rPlace l parent name id = 0 := by
  unfold rPlace; rw [h, if_pos rfl, if_neg (by omega)]
attribute [irreducible] rUp rPlace
end Go.Proofs.YtmedaimndaaiiaaGreat

/- What the document's own Do makes of nodes, and its error, as a function of what came in. No condition. -/
namespace Go.Proofs.YtmedaimndaaiiaaGreat

/-- How many nodes stand ahead of an ID. -/
def rAt (l : List NodeV) (id : Int) : Nat := (l.takeWhile fun y => decide (y.id < id)).length
theorem rAt_le (l : List NodeV) (id : Int) : rAt l id ≤ l.length := (List.takeWhile_sublist _).length_le
theorem rAt_lt {l : List NodeV} {id : Int} {k : Nat} (hk : k < rAt l id) : ∃ h : k < l.length, l[k].id < id := by
  have h := Nat.lt_of_lt_of_le hk (rAt_le l id)
  refine ⟨h, ?_⟩
  have hp : (l.takeWhile fun y => decide (y.id < id)) <+: l := List.takeWhile_prefix _
  have e : (l.takeWhile fun y => decide (y.id < id))[k]'hk = l[k] := hp.getElem hk
  have := List.all_takeWhile (p := fun y => decide (y.id < id)) (l := l)
  rw [List.all_eq_true] at this
  have h2 := this _ (List.getElem_mem hk)
  rw [e] at h2
  exact of_decide_eq_true h2
theorem rAt_ge {l : List NodeV} {id : Int} (hk : rAt l id < l.length) : ¬ l[rAt l id].id < id := by
  intro h
  have e : ∀ (l : List NodeV) (hk : rAt l id < l.length), l[rAt l id].id < id → False := by
    intro l
    induction l with
    | nil => intro hk; simp at hk
    | cons y l ih =>
      intro hk h
      by_cases hy : y.id < id
      · have hr : rAt (y :: l) id = rAt l id + 1 := by unfold rAt; rw [List.takeWhile_cons, if_pos (decide_eq_true hy)]; rfl
        simp only [hr, List.getElem_cons_succ] at h
        exact ih (by rw [hr] at hk; simpa using hk) h
      · have hr : rAt (y :: l) id = 0 := by unfold rAt; rw [List.takeWhile_cons, if_neg (by simpa using hy)]; rfl
        simp only [hr, List.getElem_cons_zero] at h
        exact hy h
  exact e l hk h
/-- What Create puts in. -/
def newNode (a : ActV) : NodeV := ⟨a.id, a.parent, a.name, a.dir, []⟩
def IdOk (id : Int) : Prop := 1 ≤ id ∧ id ≤ 1099511627776
open Classical in
noncomputable def rDo (l : List NodeV) (a : ActV) : List NodeV × Int :=
  if a.kind = 1 then
    if ¬ (IdOk a.id ∧ IsName a.name) then (l, 1)
    else if rFind l a.id ≠ none then (l, 6)
    else if rPlace l a.parent a.name 0 ≠ 0 then (l, rPlace l a.parent a.name 0)
    else if 100 ≤ l.length then (l, 4)
    else (l.take (rAt l a.id) ++ newNode a :: l.drop (rAt l a.id), 0)
  else if a.kind = 2 then match rFind l a.id with
    | none => (l, 5)
    | some k => if ∃ y ∈ l, y.parent = a.id then (l, 9) else (l.take k ++ l.drop (k + 1), 0)
  else if a.kind = 3 then
    if ¬ IsName a.name then (l, 1) else match rFind l a.id with
    | none => (l, 5)
    | some k => if rPlace l a.parent a.name a.id ≠ 0 then (l, rPlace l a.parent a.name a.id)
      else (l.set k { (l[k]?).getD default with parent := a.parent, name := a.name }, 0)
  else if a.kind = 4 then match rFind l a.id with
    | none => (l, 5)
    | some k => if ((l[k]?).getD default).dir = true then (l, 8)
      else if dErr ((l[k]?).getD default).text a.ops ≠ 0 then (l, (dErr ((l[k]?).getD default).text a.ops : Int))
      else if 10000 < rTotal (l.set k { (l[k]?).getD default with text := dTxt ((l[k]?).getD default).text a.ops }) then (l, 4)
      else (l.set k { (l[k]?).getD default with text := dTxt ((l[k]?).getD default).text a.ops }, 0)
  else (l, 1)
section
variable {l : List NodeV} {a : ActV}
theorem rDo_c1 (hk : a.kind = 1) (h : ¬ (IdOk a.id ∧ IsName a.name)) : rDo l a = (l, 1) := by unfold rDo; rw [if_pos hk, if_pos h]
theorem rDo_c2 (hk : a.kind = 1) (h : IdOk a.id ∧ IsName a.name) {k : Nat} (hf : rFind l a.id = some k) : rDo l a = (l, 6) := by
  unfold rDo; rw [if_pos hk, if_neg (fun g => g h), if_pos (by rw [hf]; simp)]
theorem rDo_c3 (hk : a.kind = 1) (h : IdOk a.id ∧ IsName a.name) (hf : rFind l a.id = none) (hp : rPlace l a.parent a.name 0 ≠ 0) : rDo l a = (l, rPlace l a.parent a.name 0) := by
  unfold rDo; rw [if_pos hk, if_neg (fun g => g h), if_neg (by rw [hf]; simp), if_pos hp]
theorem rDo_c4 (hk : a.kind = 1) (h : IdOk a.id ∧ IsName a.name) (hf : rFind l a.id = none) (hp : rPlace l a.parent a.name 0 = 0) (hn : 100 ≤ l.length) : rDo l a = (l, 4) := by
  unfold rDo; rw [if_pos hk, if_neg (fun g => g h), if_neg (by rw [hf]; simp), if_neg (fun g => g hp), if_pos hn]
theorem rDo_c5 (hk : a.kind = 1) (h : IdOk a.id ∧ IsName a.name) (hf : rFind l a.id = none) (hp : rPlace l a.parent a.name 0 = 0) (hn : ¬ 100 ≤ l.length) : rDo l a = (l.take (rAt l a.id) ++ newNode a :: l.drop (rAt l a.id), 0) := by
  unfold rDo; rw [if_pos hk, if_neg (fun g => g h), if_neg (by rw [hf]; simp), if_neg (fun g => g hp), if_neg hn]
theorem rDo_r1 (hk : a.kind = 2) (hf : rFind l a.id = none) : rDo l a = (l, 5) := by
  unfold rDo; rw [if_neg (by omega), if_pos hk, hf]
theorem rDo_r2 (hk : a.kind = 2) {k : Nat} (hf : rFind l a.id = some k) (h : ∃ y ∈ l, y.parent = a.id) : rDo l a = (l, 9) := by
  unfold rDo; rw [if_neg (by omega), if_pos hk, hf]; exact if_pos h
theorem rDo_r3 (hk : a.kind = 2) {k : Nat} (hf : rFind l a.id = some k) (h : ¬ ∃ y ∈ l, y.parent = a.id) : rDo l a = (l.take k ++ l.drop (k + 1), 0) := by
  unfold rDo; rw [if_neg (by omega), if_pos hk, hf]; exact if_neg h
theorem rDo_m1 (hk : a.kind = 3) (h : ¬ IsName a.name) : rDo l a = (l, 1) := by
  unfold rDo; rw [if_neg (by omega), if_neg (by omega), if_pos hk, if_pos h]
theorem rDo_m2 (hk : a.kind = 3) (h : IsName a.name) (hf : rFind l a.id = none) : rDo l a = (l, 5) := by
  unfold rDo; rw [if_neg (by omega), if_neg (by omega), if_pos hk, if_neg (fun g => g h), hf]
theorem rDo_m3 (hk : a.kind = 3) (h : IsName a.name) {k : Nat} (hf : rFind l a.id = some k) (hp : rPlace l a.parent a.name a.id ≠ 0) : rDo l a = (l, rPlace l a.parent a.name a.id) := by
  unfold rDo; rw [if_neg (by omega), if_neg (by omega), if_pos hk, if_neg (fun g => g h), hf]; exact if_pos hp
theorem rDo_m4 (hk : a.kind = 3) (h : IsName a.name) {k : Nat} (hkl : k < l.length) (hf : rFind l a.id = some k) (hp : rPlace l a.parent a.name a.id = 0) : rDo l a = (l.set k ⟨l[k].id, a.parent, a.name, l[k].dir, l[k].text⟩, 0) := by
  unfold rDo; rw [if_neg (by omega), if_neg (by omega), if_pos hk, if_neg (fun g => g h), hf]
  show (if _ then _ else (l.set k { (l[k]?).getD default with parent := a.parent, name := a.name }, (0 : Int))) = _
  rw [if_neg (fun g => g hp), List.getElem?_eq_getElem hkl]
  rfl
theorem rDo_e1 (hk : a.kind = 4) (hf : rFind l a.id = none) : rDo l a = (l, 5) := by
  unfold rDo; rw [if_neg (by omega), if_neg (by omega), if_neg (by omega), if_pos hk, hf]
theorem rDo_e (hk : a.kind = 4) {k : Nat} (hkl : k < l.length) (hf : rFind l a.id = some k) : rDo l a = if l[k].dir = true then (l, 8)
      else if dErr l[k].text a.ops ≠ 0 then (l, (dErr l[k].text a.ops : Int))
      else if 10000 < rTotal (l.set k ⟨l[k].id, l[k].parent, l[k].name, l[k].dir, dTxt l[k].text a.ops⟩) then (l, 4)
      else (l.set k ⟨l[k].id, l[k].parent, l[k].name, l[k].dir, dTxt l[k].text a.ops⟩, 0) := by
  unfold rDo; rw [if_neg (by omega), if_neg (by omega), if_neg (by omega), if_pos hk, hf]
  show (if ((l[k]?).getD default).dir = true then _ else if dErr ((l[k]?).getD default).text a.ops ≠ 0 then (l, (dErr ((l[k]?).getD default).text a.ops : Int)) else if 10000 < rTotal (l.set k { (l[k]?).getD default with text := dTxt ((l[k]?).getD default).text a.ops }) then _ else (l.set k { (l[k]?).getD default with text := dTxt ((l[k]?).getD default).text a.ops }, (0 : Int))) = _
  rw [List.getElem?_eq_getElem hkl]
  rfl
theorem rDo_o (h1 : a.kind ≠ 1) (h2 : a.kind ≠ 2) (h3 : a.kind ≠ 3) (h4 : a.kind ≠ 4) : rDo l a = (l, 1) := by
  unfold rDo; rw [if_neg h1, if_neg h2, if_neg h3, if_neg h4]
end
attribute [irreducible] rDo rAt
end Go.Proofs.YtmedaimndaaiiaaGreat

/- The document's own Name. Condition: no more than 2^40 bytes. -/
namespace Go.Proofs.YtmedaimndaaiiaaGreat
open Go.RowKit Go.Deep

theorem bstr_list_eq {s t : List Nat} (hs : ∀ x ∈ s, x < 256) (ht : ∀ x ∈ t, x < 256) : ((bstr s).toList == (bstr t).toList) = decide (s = t) := by
  by_cases h : s = t
  · subst h
    rw [decide_eq_true rfl]
    exact beq_self_eq_true _
  · rw [decide_eq_false h]
    exact bstr_neq fun e => h (bstr_inj _ _ hs ht e)
set_option maxHeartbeats 4000000 in
set_option maxRecDepth 100000 in
theorem refName_any (s : List Nat) (hb : ∀ x ∈ s, x < 256) (hl : s.length ≤ maxLen) (w : World) :
    Calls Tryz.prog 35 #[.string (bstr s)] w fun e w' => e = .returned (.bool (rName s)) ∧ w = w' := by
  have hsz := bstr_size s
  unfold maxLen at hl
  have HB := Lib.hid hb
  obtain ⟨T, HT⟩ : ∃ T, Hid (rName s = T) := ⟨_, Lib.hid rfl⟩
  have HNO : Hid (¬ IsName s → T = false) := fun h => by rw [← HT.out]; exact rName_no h
  have HYES : Hid (IsName s → T = true) := fun h => by rw [← HT.out]; exact rName_yes h
  rw [HT.out]
  clear HT
  by_cases h0 : s.length = 0
  · have HF : Hid (T = false) := HNO.out fun h => by rw [isName_iff] at h; omega
    rw [h0] at hsz
    clear hb
    go_enter Tryz.func35, Tryz.ntmps35
    go_wp2
    go_ret
    exact ⟨by rw [HF.out]; rfl, rfl⟩
  by_cases h20 : 20 < s.length
  · have HF : Hid (T = false) := HNO.out fun h => by rw [isName_iff] at h; omega
    clear hb
    go_enter Tryz.func35, Tryz.ntmps35
    go_wp2
    go_ret
    exact ⟨by rw [HF.out]; rfl, rfl⟩
  have e1 := bstr_list_eq hb (t := [46]) (by simp)
  have e2 := bstr_list_eq hb (t := [46, 46]) (by simp)
  rw [show (bstr [46]).toList = [46] by show ByteArray.toList { data := #[46] } = [46]; first | (decide +kernel) | simp | simp [go_sem]] at e1
  rw [show (bstr [46, 46]).toList = [46, 46] by show ByteArray.toList { data := #[46, 46] } = [46, 46]; first | (decide +kernel) | simp | simp [go_sem]] at e2
  have g0 : ¬ (s.length : Int) < 1 := by omega
  have g20 : ¬ (20 : Int) < (s.length : Int) := by omega
  by_cases d1 : s = [46]
  · have HF : Hid (T = false) := HNO.out fun h => by rw [isName_iff] at h; exact h.2.2.1 d1
    rw [decide_eq_true d1] at e1
    clear hb e2 d1
    go_enter Tryz.func35, Tryz.ntmps35
    go_wp2
    go_ret
    exact ⟨by rw [HF.out]; rfl, rfl⟩
  rw [decide_eq_false d1] at e1
  by_cases d2 : s = [46, 46]
  · have HF : Hid (T = false) := HNO.out fun h => by rw [isName_iff] at h; exact h.2.2.2.1 d2
    rw [decide_eq_true d2] at e2
    clear hb d1 d2
    go_enter Tryz.func35, Tryz.ntmps35
    go_wp2
    go_ret
    exact ⟨by rw [HF.out]; rfl, rfl⟩
  rw [decide_eq_false d2] at e2
  have HD : Hid (s ≠ [46] ∧ s ≠ [46, 46]) := ⟨d1, d2⟩
  have h20' : s.length ≤ 20 := by omega
  have h1' : 1 ≤ s.length := by omega
  clear hb d1 d2 h20 h0
  go_enter Tryz.func35, Tryz.ntmps35
  go_wp2
  go_loopw [2, 3] (fun r i wr => ∃ k : Nat, k ≤ s.length ∧ r = .bool false ∧ i = .int .i64 (k : Int) ∧ wr = w ∧ Hid (∀ (j x : Nat), j < k → s[j]? = some x → okByte x)) (fun _ i _ => s.length - (intOf i).toNat)
  case atStart => exact ⟨0, Nat.zero_le _, rfl, rfl, rfl, Lib.hid (fun j x h => by omega)⟩
  case round =>
    obtain ⟨k, hk, rfl, rfl, rfl, HOK⟩ := hrel
    by_cases hlt : k < s.length
    · have hdr := List.drop_eq_getElem_cons hlt
      have hby := fun w => byte_at HB.out hdr w
      clear hdr
      have hx : s[k]? = some s[k] := List.getElem?_eq_getElem hlt
      have hc256 := HB.out s[k] (List.getElem_mem hlt)
      generalize s[k] = c at hby hx hc256
      have HX := Lib.hid hx
      clear hx
      by_cases hok : okByte c
      · have HOK2 : Hid (∀ (j x : Nat), j < k + 1 → s[j]? = some x → okByte x) := by
          intro j x hj hjx
          rcases Nat.lt_or_ge j k with g | g
          · exact HOK.out j x g hjx
          · obtain rfl : j = k := by omega
            rw [HX.out] at hjx
            obtain rfl := Option.some.inj hjx
            exact hok
        rw [okByte_iff] at hok
        rcases hok with ⟨q1, q2⟩ | ⟨q1, q2⟩ | rfl | rfl | rfl
        · have r1 : ¬ c < 97 := by omega
          have r2 : ¬ 122 < c := by omega
          go_wp2
          go_roundw
          case rel => exact ⟨k + 1, by omega, rfl, by go_num, trivial, HOK2⟩
          case measure => simp [intOf]; omega
        · have r1 : c < 97 := by omega
          have r2 : ¬ c < 48 := by omega
          have r3 : ¬ 57 < c := by omega
          go_wp2
          go_roundw
          case rel => exact ⟨k + 1, by omega, rfl, by go_num, trivial, HOK2⟩
          case measure => simp [intOf]; omega
        · go_wp2
          go_roundw
          case rel => exact ⟨k + 1, by omega, rfl, by go_num, trivial, HOK2⟩
          case measure => simp [intOf]; omega
        · go_wp2
          go_roundw
          case rel => exact ⟨k + 1, by omega, rfl, by go_num, trivial, HOK2⟩
          case measure => simp [intOf]; omega
        · go_wp2
          go_roundw
          case rel => exact ⟨k + 1, by omega, rfl, by go_num, trivial, HOK2⟩
          case measure => simp [intOf]; omega
      · have HF : Hid (T = false) := HNO.out fun h => by
          rw [isName_iff] at h
          exact hok (h.2.2.2.2 c (List.mem_of_getElem? HX.out))
        rw [okByte_iff] at hok
        have n1 : ((c : Int) != 46) = true := by simp; omega
        have n2 : ((c : Int) != 45) = true := by simp; omega
        have n3 : ((c : Int) != 95) = true := by simp; omega
        rcases (show (c < 97 ∧ c < 48) ∨ (c < 97 ∧ 57 < c ∧ ¬ c < 48) ∨ (¬ c < 97 ∧ 122 < c ∧ ¬ c < 48 ∧ 57 < c) by omega) with ⟨r1, r2⟩ | ⟨r1, r2, r3⟩ | ⟨r1, r2, r3, r4⟩
        · clear hok
          go_wp2
          go_ret
          exact ⟨by rw [HF.out]; rfl, rfl⟩
        · clear hok
          go_wp2
          go_ret
          exact ⟨by rw [HF.out]; rfl, rfl⟩
        · clear hok
          go_wp2
          go_ret
          exact ⟨by rw [HF.out]; rfl, rfl⟩
    · have HT : Hid (T = true) := HYES.out (isName_iff.2 ⟨h1', h20', HD.out.1, HD.out.2, fun x hx => by
        obtain ⟨j, hj⟩ := List.getElem?_of_mem hx
        have := (List.getElem?_eq_some_iff.1 hj).1
        exact HOK.out j x (by omega) hj⟩)
      go_wp2
      go_ret
      exact ⟨by rw [HT.out]; rfl, rfl⟩
end Go.Proofs.YtmedaimndaaiiaaGreat

/- The document's own place: may something stand at a name in a parent? Conditions: no more than 2^20 nodes, nodes that may be. -/
namespace Go.Proofs.YtmedaimndaaiiaaGreat
open Go.RowKit Go.Deep

set_option maxHeartbeats 2000000 in
set_option maxRecDepth 100000 in
theorem refPlace_any (A : Option Addr) (c : Nat) (l : List NodeV) (parent : Int) (name : List Nat) (id : Int) (hl : l.length ≤ 1048576) (hg : ∀ y ∈ l, y.Good) (hn : ∀ x ∈ name, x < 256) (w : World) (hA : NodesAt w A l) :
    Calls Tryz.prog 83 #[.slice A l.length c, .int .i64 parent, .string (bstr name), .int .i64 id] w fun e w' => e = .returned (.int .i64 (rPlace l parent name id)) ∧ w = w' := by
  have HA := Lib.hid hA
  have GF := Lib.hid (refFind_any A c l parent (by unfold maxLen; omega) w hA)
  have GC := Lib.hid (refChild_any A c l parent name (by unfold maxLen; omega) hg hn w hA)
  have GW := Lib.hid (refWithin_any A c l parent id (by omega) w hA)
  obtain ⟨T, HT⟩ : ∃ T, Hid (rPlace l parent name id = T) := ⟨_, Lib.hid rfl⟩
  rw [HT.out]
  have HTHERE : Hid (rUp l parent id = 0 → 0 ≤ rChild l parent name → rChild l parent name ≠ id → T = 6) := fun h1 h2 h3 => by rw [← HT.out]; exact rPlace_there h1 h2 h3
  have HOK : Hid (rUp l parent id = 0 → (rChild l parent name < 0 ∨ rChild l parent name = id) → T = 0) := fun h1 h2 => by rw [← HT.out]; exact rPlace_ok h1 h2
  have HUP : Hid (∀ u, rUp l parent id = u → u ≠ 0 → T = u) := fun u h1 h2 => by rw [← HT.out]; exact rPlace_up h1 h2
  clear hA HT
  generalize rChild l parent name = ch at GC HTHERE HOK
  by_cases p0 : parent = 0
  · have HU : Hid (rUp l parent id = 0) := by show _ = _; rw [p0]; exact rUp_root l id
    have q0 : (parent != 0) = false := by rw [p0]; rfl
    clear p0
    by_cases c0 : ch < 0
    · have HF : Hid (T = 0) := HOK.out HU.out (.inl c0)
      have c1 : ¬ 0 ≤ ch := by omega
      clear HUP HOK HTHERE
      go_enter Tryz.func83, Tryz.ntmps83
      go_wp2_with fail
      refine (GC.out).mono ?_
      rintro e v ⟨rfl, rfl⟩
      go_wp2
      go_ret
      exact ⟨by rw [HF.out]; rfl, rfl⟩
    · have c1 : 0 ≤ ch := by omega
      by_cases c2 : ch = id
      · have HF : Hid (T = 0) := HOK.out HU.out (.inr c2)
        have c3 : (ch != id) = false := by rw [c2]; simp
        clear HUP HOK HTHERE c2
        go_enter Tryz.func83, Tryz.ntmps83
        go_wp2_with fail
        refine (GC.out).mono ?_
        rintro e v ⟨rfl, rfl⟩
        go_wp2
        go_ret
        exact ⟨by rw [HF.out]; rfl, rfl⟩
      · have HF : Hid (T = 6) := HTHERE.out HU.out c1 c2
        have c3 : (ch != id) = true := by simpa using c2
        clear HUP HOK HTHERE c2
        go_enter Tryz.func83, Tryz.ntmps83
        go_wp2_with fail
        refine (GC.out).mono ?_
        rintro e v ⟨rfl, rfl⟩
        go_wp2
        go_ret
        exact ⟨by rw [HF.out]; rfl, rfl⟩
  have q0 : (parent != 0) = true := by simpa using p0
  cases hf : rFind l parent with
  | none =>
    have HF : Hid (T = 5) := HUP.out 5 (rUp_none id p0 hf) (by omega)
    rw [hf] at GF
    clear hf p0 HUP HOK HTHERE
    go_enter Tryz.func83, Tryz.ntmps83
    go_wp2_with fail
    refine (GF.out).mono ?_
    rintro e v ⟨rfl, rfl⟩
    rw [show findI none = -1 from rfl]
    go_wp2
    go_ret
    exact ⟨by rw [HF.out]; rfl, rfl⟩
  | some q =>
    obtain ⟨hq, _, _⟩ := rFind_some hf
    have HUS := Lib.hid (rUp_some id hq p0 hf)
    rw [hf, show findI (some q) = (q : Int) from rfl] at GF
    obtain ⟨b, off, rfl, _⟩ := HA.out.form (by omega)
    have hc3 := (HA.out.at_ hq).2.2.2.1
    have hqi : (q : Int) < (l.length : Int) := by omega
    have hq0 : ¬ (q : Int) < 0 := by omega
    clear hf p0
    cases hd : l[q].dir with
    | false =>
      have HF : Hid (T = 8) := HUP.out 8 (by rw [HUS.out, if_pos hd]) (by omega)
      rw [hd] at hc3
      clear hd HUS HUP HOK HTHERE
      go_enter Tryz.func83, Tryz.ntmps83
      go_wp2_with fail
      refine (GF.out).mono ?_
      rintro e v ⟨rfl, rfl⟩
      go_wp2
      go_ret
      exact ⟨by rw [HF.out]; rfl, rfl⟩
    | true =>
      have HUT : Hid (rUp l parent id = if 0 < id ∧ rWithin l parent id = true then 10 else 0) := by show _ = _; rw [HUS.out, if_neg (by rw [hd]; simp)]
      rw [hd] at hc3
      clear hd HUS
      by_cases i0 : 0 < id
      · cases hw : rWithin l parent id with
        | true =>
          have HF : Hid (T = 10) := HUP.out 10 (by rw [HUT.out, if_pos ⟨i0, hw⟩]) (by omega)
          rw [hw] at GW
          clear hw HUT HUP HOK HTHERE
          go_enter Tryz.func83, Tryz.ntmps83
          go_wp2_with fail
          refine (GF.out).mono ?_
          rintro e v ⟨rfl, rfl⟩
          go_wp2_with fail
          refine (GW.out).mono ?_
          rintro e v ⟨rfl, rfl⟩
          go_wp2
          go_ret
          exact ⟨by rw [HF.out]; rfl, rfl⟩
        | false =>
          have HU : Hid (rUp l parent id = 0) := by show _ = _; rw [HUT.out, if_neg (by rw [hw]; simp)]
          rw [hw] at GW
          clear hw HUT
          by_cases c0 : ch < 0
          · have HF : Hid (T = 0) := HOK.out HU.out (.inl c0)
            have c1 : ¬ 0 ≤ ch := by omega
            clear HUP HOK HTHERE
            go_enter Tryz.func83, Tryz.ntmps83
            go_wp2_with fail
            refine (GF.out).mono ?_
            rintro e v ⟨rfl, rfl⟩
            go_wp2_with fail
            refine (GW.out).mono ?_
            rintro e v ⟨rfl, rfl⟩
            go_wp2_with fail
            refine (GC.out).mono ?_
            rintro e v ⟨rfl, rfl⟩
            go_wp2
            go_ret
            exact ⟨by rw [HF.out]; rfl, rfl⟩
          · have c1 : 0 ≤ ch := by omega
            by_cases c2 : ch = id
            · have HF : Hid (T = 0) := HOK.out HU.out (.inr c2)
              have c3 : (ch != id) = false := by rw [c2]; simp
              clear HUP HOK HTHERE c2
              go_enter Tryz.func83, Tryz.ntmps83
              go_wp2_with fail
              refine (GF.out).mono ?_
              rintro e v ⟨rfl, rfl⟩
              go_wp2_with fail
              refine (GW.out).mono ?_
              rintro e v ⟨rfl, rfl⟩
              go_wp2_with fail
              refine (GC.out).mono ?_
              rintro e v ⟨rfl, rfl⟩
              go_wp2
              go_ret
              exact ⟨by rw [HF.out]; rfl, rfl⟩
            · have HF : Hid (T = 6) := HTHERE.out HU.out c1 c2
              have c3 : (ch != id) = true := by simpa using c2
              clear HUP HOK HTHERE c2
              go_enter Tryz.func83, Tryz.ntmps83
              go_wp2_with fail
              refine (GF.out).mono ?_
              rintro e v ⟨rfl, rfl⟩
              go_wp2_with fail
              refine (GW.out).mono ?_
              rintro e v ⟨rfl, rfl⟩
              go_wp2_with fail
              refine (GC.out).mono ?_
              rintro e v ⟨rfl, rfl⟩
              go_wp2
              go_ret
              exact ⟨by rw [HF.out]; rfl, rfl⟩
      · have HU : Hid (rUp l parent id = 0) := by show _ = _; rw [HUT.out, if_neg (fun h => i0 h.1)]
        clear HUT
        by_cases c0 : ch < 0
        · have HF : Hid (T = 0) := HOK.out HU.out (.inl c0)
          have c1 : ¬ 0 ≤ ch := by omega
          clear HUP HOK HTHERE
          go_enter Tryz.func83, Tryz.ntmps83
          go_wp2_with fail
          refine (GF.out).mono ?_
          rintro e v ⟨rfl, rfl⟩
          go_wp2_with fail
          refine (GC.out).mono ?_
          rintro e v ⟨rfl, rfl⟩
          go_wp2
          go_ret
          exact ⟨by rw [HF.out]; rfl, rfl⟩
        · have c1 : 0 ≤ ch := by omega
          by_cases c2 : ch = id
          · have HF : Hid (T = 0) := HOK.out HU.out (.inr c2)
            have c3 : (ch != id) = false := by rw [c2]; simp
            clear HUP HOK HTHERE c2
            go_enter Tryz.func83, Tryz.ntmps83
            go_wp2_with fail
            refine (GF.out).mono ?_
            rintro e v ⟨rfl, rfl⟩
            go_wp2_with fail
            refine (GC.out).mono ?_
            rintro e v ⟨rfl, rfl⟩
            go_wp2
            go_ret
            exact ⟨by rw [HF.out]; rfl, rfl⟩
          · have HF : Hid (T = 6) := HTHERE.out HU.out c1 c2
            have c3 : (ch != id) = true := by simpa using c2
            clear HUP HOK HTHERE c2
            go_enter Tryz.func83, Tryz.ntmps83
            go_wp2_with fail
            refine (GF.out).mono ?_
            rintro e v ⟨rfl, rfl⟩
            go_wp2_with fail
            refine (GC.out).mono ?_
            rintro e v ⟨rfl, rfl⟩
            go_wp2
            go_ret
            exact ⟨by rw [HF.out]; rfl, rfl⟩
end Go.Proofs.YtmedaimndaaiiaaGreat

/- The document's own Do, over nodes: the ways that refuse. Conditions: no more than 2^20 nodes, nodes and acts that may be. -/
namespace Go.Proofs.YtmedaimndaaiiaaGreat
open Go.RowKit Go.Deep

/-- What Do answers: the nodes of a pair, and its error. -/
def NDo (w' : World) (R : List NodeV × Int) (e : Ending) : Prop := ∃ A' c', e = .returned (.tuple #[.slice A' R.1.length c', .int .i64 R.2]) ∧ NodesC w' A' c' R.1

set_option maxHeartbeats 2000000 in
set_option maxRecDepth 100000 in
theorem refNDo_create_no (A : Option Addr) (c : Nat) (l : List NodeV) (a : ActV) (hl : l.length ≤ 1048576) (hg : ∀ y ∈ l, y.Good) (hnb : ∀ x ∈ a.name, x < 256) (hnl : a.name.length ≤ maxLen) (hk : a.kind = 1) (hfull : IdOk a.id → IsName a.name → rFind l a.id = none → rPlace l a.parent a.name 0 = 0 → 100 ≤ l.length) (w : World) (hC : NodesC w A c l) :
    Calls Tryz.prog 54 #[.slice A l.length c, .agg (actCells a).toArray] w fun e w' => NDo w' (rDo l a) e ∧ Below w.heap.size w w' := by
  have HC := Lib.hid hC
  clear hC
  obtain ⟨w1, HW1⟩ : ∃ x', Hid (w.alloc (.cells (actCells a).toArray 25) = x') := ⟨_, Lib.hid rfl⟩
  have hs1 : w1.heap.size = w.heap.size + 1 := by rw [← HW1.out]; simp
  have HB1 : Hid (Below w.heap.size w w1) := by
    show Below _ _ _
    rw [← HW1.out]
    exact (Below.refl _ _).alloc (Nat.le_refl _) _
  have HX : Hid (∀ (f : Nat) (v : Value), (actCells a)[f]? = some v → w1.cell? ⟨w.heap.size, f, none⟩ = some v) := by
    intro f v hf
    rw [← HW1.out, cell_of_row _ _ _ _ _ _ (heap_alloc_new w _)]
    simpa using hf
  have HA := Lib.hid (HC.out.1.below HB1.out)
  have GF := Lib.hid (refFind_any A c l a.id (by unfold maxLen; omega) w1 HA.out)
  have GN := Lib.hid (refName_any a.name hnb hnl w1)
  have GP := Lib.hid (refPlace_any A c l a.parent a.name 0 hl hg hnb w1 HA.out)
  obtain ⟨kk, ii, pp, nn, dd, oA, oC, oo⟩ := a
  simp only [actCells] at *
  have x0 := HX.out 0 _ rfl
  have x1 := HX.out 1 _ rfl
  have x2 := HX.out 2 _ rfl
  have x3 := HX.out 3 _ rfl
  have x4 := HX.out 4 _ rfl
  have x5 := HX.out 5 _ rfl
  obtain rfl : kk = 1 := hk
  by_cases i1 : ii < 1
  · rw [rDo_c1 rfl (fun h => by have := h.1.1; simp only at this; omega)]
    generalize findI (rFind l ii) = fi at GF
    clear GN GP
    go_enter Tryz.func54, Tryz.ntmps54
    go_wp2_with fail
    try rw [HW1.out]
    refine (GF.out).mono ?_
    rintro e v ⟨rfl, rfl⟩
    go_wp2
    try rw [HW1.out]
    go_ret2
    exact ⟨⟨_, _, rfl, HC.out.below HB1.out⟩, HB1.out⟩
  by_cases i2 : 1099511627776 < ii
  · rw [rDo_c1 rfl (fun h => by have := h.1.2; simp only at this; omega)]
    generalize findI (rFind l ii) = fi at GF
    clear GN GP
    go_enter Tryz.func54, Tryz.ntmps54
    go_wp2_with fail
    try rw [HW1.out]
    refine (GF.out).mono ?_
    rintro e v ⟨rfl, rfl⟩
    go_wp2
    try rw [HW1.out]
    go_ret2
    exact ⟨⟨_, _, rfl, HC.out.below HB1.out⟩, HB1.out⟩
  have hid : IdOk ii := ⟨by omega, by omega⟩
  by_cases hn : IsName nn
  rotate_left
  · rw [rDo_c1 rfl (fun h => hn h.2)]
    generalize findI (rFind l ii) = fi at GF
    rw [rName_no hn] at GN
    clear GP hn hid
    go_enter Tryz.func54, Tryz.ntmps54
    go_wp2_with fail
    try rw [HW1.out]
    refine (GF.out).mono ?_
    rintro e v ⟨rfl, rfl⟩
    go_wp2_with fail
    try rw [HW1.out]
    refine (GN.out).mono ?_
    rintro e v ⟨rfl, rfl⟩
    go_wp2
    try rw [HW1.out]
    go_ret2
    exact ⟨⟨_, _, rfl, HC.out.below HB1.out⟩, HB1.out⟩
  rw [rName_yes hn] at GN
  cases hf : rFind l ii with
  | some q =>
    rw [rDo_c2 rfl ⟨hid, hn⟩ hf]
    obtain ⟨hq, _, _⟩ := rFind_some hf
    have hqi : (q : Int) < (l.length : Int) := by omega
    have hq0 : ¬ (q : Int) < 0 := by omega
    have hq1 : (0 : Int) ≤ (q : Int) := by omega
    rw [hf, show findI (some q) = (q : Int) from rfl] at GF
    clear GP hn hid hf
    go_enter Tryz.func54, Tryz.ntmps54
    go_wp2_with fail
    try rw [HW1.out]
    refine (GF.out).mono ?_
    rintro e v ⟨rfl, rfl⟩
    go_wp2_with fail
    try rw [HW1.out]
    refine (GN.out).mono ?_
    rintro e v ⟨rfl, rfl⟩
    go_wp2
    try rw [HW1.out]
    go_ret2
    exact ⟨⟨_, _, rfl, HC.out.below HB1.out⟩, HB1.out⟩
  | none =>
    rw [hf, show findI none = -1 from rfl] at GF
    by_cases hp : rPlace l pp nn 0 = 0
    · have h100 := hfull hid hn hf hp
      have h100i : (100 : Int) ≤ (l.length : Int) := by omega
      rw [rDo_c4 rfl ⟨hid, hn⟩ hf hp h100]
      rw [hp] at GP
      clear hn hid hf hp h100 hfull
      go_enter Tryz.func54, Tryz.ntmps54
      go_wp2_with fail
      try rw [HW1.out]
      refine (GF.out).mono ?_
      rintro e v ⟨rfl, rfl⟩
      go_wp2_with fail
      try rw [HW1.out]
      refine (GN.out).mono ?_
      rintro e v ⟨rfl, rfl⟩
      go_wp2_with fail
      try rw [HW1.out]
      refine (GP.out).mono ?_
      rintro e v ⟨rfl, rfl⟩
      go_wp2
      try rw [HW1.out]
      go_ret2
      exact ⟨⟨_, _, rfl, HC.out.below HB1.out⟩, HB1.out⟩
    · rw [rDo_c3 rfl ⟨hid, hn⟩ hf hp]
      generalize rPlace l pp nn 0 = T at GP hp
      have hp2 : (T != 0) = true := by simpa using hp
      clear hn hid hf hp hfull
      go_enter Tryz.func54, Tryz.ntmps54
      go_wp2_with fail
      try rw [HW1.out]
      refine (GF.out).mono ?_
      rintro e v ⟨rfl, rfl⟩
      go_wp2_with fail
      try rw [HW1.out]
      refine (GN.out).mono ?_
      rintro e v ⟨rfl, rfl⟩
      go_wp2_with fail
      try rw [HW1.out]
      refine (GP.out).mono ?_
      rintro e v ⟨rfl, rfl⟩
      go_wp2
      try rw [HW1.out]
      go_ret2
      exact ⟨⟨_, _, rfl, HC.out.below HB1.out⟩, HB1.out⟩

set_option maxHeartbeats 2000000 in
set_option maxRecDepth 100000 in
theorem refNDo_move_no (A : Option Addr) (c : Nat) (l : List NodeV) (a : ActV) (hl : l.length ≤ 1048576) (hg : ∀ y ∈ l, y.Good) (hnb : ∀ x ∈ a.name, x < 256) (hnl : a.name.length ≤ maxLen) (hk : a.kind = 3) (hbad : IsName a.name → rFind l a.id ≠ none → rPlace l a.parent a.name a.id ≠ 0) (w : World) (hC : NodesC w A c l) :
    Calls Tryz.prog 54 #[.slice A l.length c, .agg (actCells a).toArray] w fun e w' => NDo w' (rDo l a) e ∧ Below w.heap.size w w' := by
  have HC := Lib.hid hC
  clear hC
  obtain ⟨w1, HW1⟩ : ∃ x', Hid (w.alloc (.cells (actCells a).toArray 25) = x') := ⟨_, Lib.hid rfl⟩
  have hs1 : w1.heap.size = w.heap.size + 1 := by rw [← HW1.out]; simp
  have HB1 : Hid (Below w.heap.size w w1) := by
    show Below _ _ _
    rw [← HW1.out]
    exact (Below.refl _ _).alloc (Nat.le_refl _) _
  have HX : Hid (∀ (f : Nat) (v : Value), (actCells a)[f]? = some v → w1.cell? ⟨w.heap.size, f, none⟩ = some v) := by
    intro f v hf
    rw [← HW1.out, cell_of_row _ _ _ _ _ _ (heap_alloc_new w _)]
    simpa using hf
  have HA := Lib.hid (HC.out.1.below HB1.out)
  have GF := Lib.hid (refFind_any A c l a.id (by unfold maxLen; omega) w1 HA.out)
  have GN := Lib.hid (refName_any a.name hnb hnl w1)
  have GP := Lib.hid (refPlace_any A c l a.parent a.name a.id hl hg hnb w1 HA.out)
  obtain ⟨kk, ii, pp, nn, dd, oA, oC, oo⟩ := a
  simp only [actCells] at *
  have x0 := HX.out 0 _ rfl
  have x1 := HX.out 1 _ rfl
  have x2 := HX.out 2 _ rfl
  have x3 := HX.out 3 _ rfl
  have x4 := HX.out 4 _ rfl
  have x5 := HX.out 5 _ rfl
  obtain rfl : kk = 3 := hk
  by_cases hn : IsName nn
  rotate_left
  · rw [rDo_m1 rfl hn]
    generalize findI (rFind l ii) = fi at GF
    rw [rName_no hn] at GN
    clear GP hn hbad
    go_enter Tryz.func54, Tryz.ntmps54
    go_wp2_with fail
    try rw [HW1.out]
    refine (GF.out).mono ?_
    rintro e v ⟨rfl, rfl⟩
    go_wp2_with fail
    try rw [HW1.out]
    refine (GN.out).mono ?_
    rintro e v ⟨rfl, rfl⟩
    go_wp2
    try rw [HW1.out]
    go_ret2
    exact ⟨⟨_, _, rfl, HC.out.below HB1.out⟩, HB1.out⟩
  rw [rName_yes hn] at GN
  cases hf : rFind l ii with
  | none =>
    rw [rDo_m2 rfl hn hf]
    rw [hf, show findI none = -1 from rfl] at GF
    clear GP hn hf hbad
    go_enter Tryz.func54, Tryz.ntmps54
    go_wp2_with fail
    try rw [HW1.out]
    refine (GF.out).mono ?_
    rintro e v ⟨rfl, rfl⟩
    go_wp2_with fail
    try rw [HW1.out]
    refine (GN.out).mono ?_
    rintro e v ⟨rfl, rfl⟩
    go_wp2
    try rw [HW1.out]
    go_ret2
    exact ⟨⟨_, _, rfl, HC.out.below HB1.out⟩, HB1.out⟩
  | some q =>
    have hp : ¬ rPlace l pp nn ii = 0 := hbad hn (by rw [hf]; simp)
    rw [rDo_m3 rfl hn hf hp]
    obtain ⟨hq, _, _⟩ := rFind_some hf
    have hqi : (q : Int) < (l.length : Int) := by omega
    have hq0 : ¬ (q : Int) < 0 := by omega
    have hq1 : (0 : Int) ≤ (q : Int) := by omega
    rw [hf, show findI (some q) = (q : Int) from rfl] at GF
    generalize rPlace l pp nn ii = T at GP hp
    have hp2 : (T != 0) = true := by simpa using hp
    clear hn hf hp hbad
    go_enter Tryz.func54, Tryz.ntmps54
    go_wp2_with fail
    try rw [HW1.out]
    refine (GF.out).mono ?_
    rintro e v ⟨rfl, rfl⟩
    go_wp2_with fail
    try rw [HW1.out]
    refine (GN.out).mono ?_
    rintro e v ⟨rfl, rfl⟩
    go_wp2_with fail
    try rw [HW1.out]
    refine (GP.out).mono ?_
    rintro e v ⟨rfl, rfl⟩
    go_wp2
    try rw [HW1.out]
    go_ret2
    exact ⟨⟨_, _, rfl, HC.out.below HB1.out⟩, HB1.out⟩

set_option maxHeartbeats 2000000 in
set_option maxRecDepth 100000 in
theorem refNDo_none (A : Option Addr) (c : Nat) (l : List NodeV) (a : ActV) (hl : l.length ≤ 1048576) (hk : a.kind = 2 ∨ a.kind = 4) (hno : ∀ q, rFind l a.id ≠ some q) (w : World) (hC : NodesC w A c l) :
    Calls Tryz.prog 54 #[.slice A l.length c, .agg (actCells a).toArray] w fun e w' => NDo w' (rDo l a) e ∧ Below w.heap.size w w' := by
  have HC := Lib.hid hC
  clear hC
  obtain ⟨w1, HW1⟩ : ∃ x', Hid (w.alloc (.cells (actCells a).toArray 25) = x') := ⟨_, Lib.hid rfl⟩
  have hs1 : w1.heap.size = w.heap.size + 1 := by rw [← HW1.out]; simp
  have HB1 : Hid (Below w.heap.size w w1) := by
    show Below _ _ _
    rw [← HW1.out]
    exact (Below.refl _ _).alloc (Nat.le_refl _) _
  have HX : Hid (∀ (f : Nat) (v : Value), (actCells a)[f]? = some v → w1.cell? ⟨w.heap.size, f, none⟩ = some v) := by
    intro f v hf
    rw [← HW1.out, cell_of_row _ _ _ _ _ _ (heap_alloc_new w _)]
    simpa using hf
  have HA := Lib.hid (HC.out.1.below HB1.out)
  have GF := Lib.hid (refFind_any A c l a.id (by unfold maxLen; omega) w1 HA.out)

  obtain ⟨kk, ii, pp, nn, dd, oA, oC, oo⟩ := a
  simp only [actCells] at *
  have x0 := HX.out 0 _ rfl
  have x1 := HX.out 1 _ rfl
  have x2 := HX.out 2 _ rfl
  have x3 := HX.out 3 _ rfl
  have x4 := HX.out 4 _ rfl
  have x5 := HX.out 5 _ rfl
  cases hf : rFind l ii with
  | some q =>
    exact absurd hf (hno q)
  | none =>
    rw [hf, show findI none = -1 from rfl] at GF
    rcases hk with hk | hk
    · obtain rfl : kk = 2 := hk
      rw [rDo_r1 rfl hf]
      clear hf hno
      go_enter Tryz.func54, Tryz.ntmps54
      go_wp2_with fail
      try rw [HW1.out]
      refine (GF.out).mono ?_
      rintro e v ⟨rfl, rfl⟩
      go_wp2
      try rw [HW1.out]
      go_ret2
      exact ⟨⟨_, _, rfl, HC.out.below HB1.out⟩, HB1.out⟩
    · obtain rfl : kk = 4 := hk
      rw [rDo_e1 rfl hf]
      clear hf hno
      go_enter Tryz.func54, Tryz.ntmps54
      go_wp2_with fail
      try rw [HW1.out]
      refine (GF.out).mono ?_
      rintro e v ⟨rfl, rfl⟩
      go_wp2
      try rw [HW1.out]
      go_ret2
      exact ⟨⟨_, _, rfl, HC.out.below HB1.out⟩, HB1.out⟩

set_option maxHeartbeats 2000000 in
set_option maxRecDepth 100000 in
theorem refNDo_other (A : Option Addr) (c : Nat) (l : List NodeV) (a : ActV) (hl : l.length ≤ 1048576) (h1 : a.kind ≠ 1) (h2 : a.kind ≠ 2) (h3 : a.kind ≠ 3) (h4 : a.kind ≠ 4) (w : World) (hC : NodesC w A c l) :
    Calls Tryz.prog 54 #[.slice A l.length c, .agg (actCells a).toArray] w fun e w' => NDo w' (rDo l a) e ∧ Below w.heap.size w w' := by
  have HC := Lib.hid hC
  clear hC
  obtain ⟨w1, HW1⟩ : ∃ x', Hid (w.alloc (.cells (actCells a).toArray 25) = x') := ⟨_, Lib.hid rfl⟩
  have hs1 : w1.heap.size = w.heap.size + 1 := by rw [← HW1.out]; simp
  have HB1 : Hid (Below w.heap.size w w1) := by
    show Below _ _ _
    rw [← HW1.out]
    exact (Below.refl _ _).alloc (Nat.le_refl _) _
  have HX : Hid (∀ (f : Nat) (v : Value), (actCells a)[f]? = some v → w1.cell? ⟨w.heap.size, f, none⟩ = some v) := by
    intro f v hf
    rw [← HW1.out, cell_of_row _ _ _ _ _ _ (heap_alloc_new w _)]
    simpa using hf
  have HA := Lib.hid (HC.out.1.below HB1.out)
  have GF := Lib.hid (refFind_any A c l a.id (by unfold maxLen; omega) w1 HA.out)

  obtain ⟨kk, ii, pp, nn, dd, oA, oC, oo⟩ := a
  simp only [actCells] at *
  have x0 := HX.out 0 _ rfl
  have x1 := HX.out 1 _ rfl
  have x2 := HX.out 2 _ rfl
  have x3 := HX.out 3 _ rfl
  have x4 := HX.out 4 _ rfl
  have x5 := HX.out 5 _ rfl
  rw [rDo_o h1 h2 h3 h4]
  have q1 : (kk == 1) = false := by simpa using h1
  have q2 : (kk == 2) = false := by simpa using h2
  have q3 : (kk == 3) = false := by simpa using h3
  have q4 : (kk == 4) = false := by simpa using h4
  generalize findI (rFind l ii) = fi at GF
  clear h1 h2 h3 h4
  go_enter Tryz.func54, Tryz.ntmps54
  go_wp2_with fail
  try rw [HW1.out]
  refine (GF.out).mono ?_
  rintro e v ⟨rfl, rfl⟩
  go_wp2
  try rw [HW1.out]
  go_ret2
  exact ⟨⟨_, _, rfl, HC.out.below HB1.out⟩, HB1.out⟩

end Go.Proofs.YtmedaimndaaiiaaGreat

/- The document's own order of children, as a function: by their names, put in one by one. No condition. -/
namespace Go.Proofs.YtmedaimndaaiiaaGreat

theorem less_irrefl : ∀ x : List UInt8, Op.bytesLess x x = false
  | [] => rfl
  | a :: x => by
    rw [Op.bytesLess, less_irrefl x]
    have : ¬ a < a := by rw [UInt8.lt_iff_toNat_lt]; omega
    simp
theorem less_trans : ∀ {x y z : List UInt8}, Op.bytesLess x y = true → Op.bytesLess y z = true → Op.bytesLess x z = true
  | _, [], _, h, _ => by rw [Op.bytesLess] at h; cases h
  | _, b :: y, [], _, h => by rw [Op.bytesLess] at h; cases h
  | [], b :: y, c :: z, _, _ => rfl
  | a :: x, b :: y, c :: z, h, g => by
    rw [Op.bytesLess] at h g ⊢
    simp only [Bool.or_eq_true, Bool.and_eq_true, beq_iff_eq, decide_eq_true_eq] at h g ⊢
    rw [UInt8.lt_iff_toNat_lt] at h g ⊢
    rcases h with h | ⟨rfl, h⟩
    · rcases g with g | ⟨rfl, g⟩
      · exact .inl (by omega)
      · exact .inl h
    · rcases g with g | ⟨rfl, g⟩
      · exact .inl g
      · exact .inr ⟨rfl, less_trans h g⟩
theorem less_total : ∀ {x y : List UInt8}, Op.bytesLess x y = false → Op.bytesLess y x = false → x = y
  | [], [], _, _ => rfl
  | [], b :: y, h, _ => by rw [Op.bytesLess] at h; cases h
  | a :: x, [], _, h => by rw [Op.bytesLess] at h; cases h
  | a :: x, b :: y, h, g => by
    rw [Op.bytesLess] at h g
    simp only [Bool.or_eq_false_iff, Bool.and_eq_false_iff, decide_eq_false_iff_not, beq_eq_false_iff_ne] at h g
    have h1 := h.1
    have g1 := g.1
    rw [UInt8.lt_iff_toNat_lt] at h1 g1
    have e : a = b := UInt8.toNat_inj.1 (by omega)
    subst e
    rcases h.2 with h2 | h2
    · exact absurd rfl h2
    · rcases g.2 with g2 | g2
      · exact absurd rfl g2
      · rw [less_total h2 g2]
/-- Is a name ahead of another one? -/
def lessB (a b : List Nat) : Bool := Op.bytesLess (bstr a).toList (bstr b).toList
theorem lessB_self (a : List Nat) : lessB a a = false := less_irrefl _
theorem lessB_trans {a b c : List Nat} (h : lessB a b = true) (g : lessB b c = true) : lessB a c = true := less_trans h g
theorem lessB_asymm {a b : List Nat} (h : lessB a b = true) : lessB b a = false := by
  cases g : lessB b a with
  | false => rfl
  | true => have := lessB_trans h g; rw [lessB_self] at this; cases this
/-- Where a name goes: ahead of all that are behind it. -/
def kAt (n : List Nat) (ns : List (List Nat)) : Nat → Nat
  | 0 => 0
  | k + 1 => if lessB n (ns[k]?.getD []) = true then kAt n ns k else k + 1
theorem kAt_le (n : List Nat) (ns : List (List Nat)) : ∀ k, kAt n ns k ≤ k
  | 0 => Nat.le_refl _
  | k + 1 => by
    rw [kAt]
    split
    · have := kAt_le n ns k; omega
    · exact Nat.le_refl _
theorem kAt_yes {n : List Nat} {ns : List (List Nat)} {k : Nat} (hk : k < ns.length) (h : lessB n ns[k] = true) : kAt n ns (k + 1) = kAt n ns k := by
  rw [kAt, List.getElem?_eq_getElem hk, Option.getD_some, if_pos h]
theorem kAt_no {n : List Nat} {ns : List (List Nat)} {k : Nat} (hk : k < ns.length) (h : lessB n ns[k] = false) : kAt n ns (k + 1) = k + 1 := by
  rw [kAt, List.getElem?_eq_getElem hk, Option.getD_some, if_neg (by rw [h]; simp)]
theorem kAt_zero (n : List Nat) (ns : List (List Nat)) : kAt n ns 0 = 0 := rfl
/-- All from there on stand behind the name. -/
theorem kAt_behind {n : List Nat} {ns : List (List Nat)} : ∀ {k : Nat}, k ≤ ns.length → ∀ (j : Nat) (hj : j < ns.length), kAt n ns k ≤ j → j < k → lessB n ns[j] = true
  | 0, _, j, _, _, h => by omega
  | k + 1, hk, j, hj, h1, h2 => by
    cases h : lessB n (ns[k]'(by omega)) with
    | true =>
      rw [kAt_yes (by omega) h] at h1
      by_cases e : j = k
      · subst e; exact h
      · exact kAt_behind (by omega) j hj h1 (by omega)
    | false =>
      rw [kAt_no (by omega) h] at h1
      omega
/-- The one ahead of it does not. -/
theorem kAt_ahead {n : List Nat} {ns : List (List Nat)} : ∀ {k : Nat} (hk : k ≤ ns.length) (h : 0 < kAt n ns k), lessB n (ns[kAt n ns k - 1]'(by have := kAt_le n ns k; omega)) = false
  | 0, _, h => by rw [kAt_zero] at h; omega
  | k + 1, hk, h => by
    cases g : lessB n (ns[k]'(by omega)) with
    | true =>
      have e := kAt_yes (by omega) g
      simp only [e] at h ⊢
      exact kAt_ahead (by omega) h
    | false =>
      have e := kAt_no (by omega) g
      simp only [e]
      exact g
/-- A node put in among others. -/
def kPut (acc : List NodeV) (x : NodeV) : List NodeV := acc.take (kAt x.name (acc.map fun y => y.name) acc.length) ++ x :: acc.drop (kAt x.name (acc.map fun y => y.name) acc.length)
def kStep (p : Int) (acc : List NodeV) (x : NodeV) : List NodeV := if x.parent = p then kPut acc x else acc
/-- The children of p among the first n nodes, by their names. -/
def kids (l : List NodeV) (p : Int) (n : Nat) : List NodeV := (l.take n).foldl (kStep p) []
theorem kids_zero (l : List NodeV) (p : Int) : kids l p 0 = [] := by unfold kids; rw [List.take_zero]; rfl
theorem kids_succ {l : List NodeV} (p : Int) {n : Nat} (h : n < l.length) : kids l p (n + 1) = kStep p (kids l p n) l[n] := by
  unfold kids
  rw [List.take_succ_eq_append_getElem h, List.foldl_append]
  rfl
theorem kPut_mem {acc : List NodeV} {x y : NodeV} : y ∈ kPut acc x ↔ y = x ∨ y ∈ acc := by
  unfold kPut
  generalize kAt x.name (acc.map fun y => y.name) acc.length = k
  have h : y ∈ acc ↔ y ∈ acc.take k ∨ y ∈ acc.drop k := by rw [← List.mem_append, List.take_append_drop]
  rw [List.mem_append, List.mem_cons, h]
  constructor
  · rintro (g | g | g)
    · exact .inr (.inl g)
    · exact .inl g
    · exact .inr (.inr g)
  · rintro (g | g | g)
    · exact .inr (.inl g)
    · exact .inl g
    · exact .inr (.inr g)
theorem kPut_length (acc : List NodeV) (x : NodeV) : (kPut acc x).length = acc.length + 1 := by
  unfold kPut
  generalize kAt x.name (acc.map fun y => y.name) acc.length = k
  have h : (acc.take k).length + (acc.drop k).length = acc.length := by rw [← List.length_append, List.take_append_drop]
  rw [List.length_append, List.length_cons]
  omega
theorem kids_mem {l : List NodeV} {p : Int} {y : NodeV} : ∀ {n : Nat}, n ≤ l.length → (y ∈ kids l p n ↔ y ∈ l.take n ∧ y.parent = p)
  | 0, _ => by rw [kids_zero, List.take_zero]; simp
  | n + 1, h => by
    rw [kids_succ p h, List.take_succ_eq_append_getElem h, List.mem_append, List.mem_singleton]
    unfold kStep
    split
    · rename_i e
      rw [kPut_mem, kids_mem (by omega)]
      constructor
      · rintro (rfl | ⟨g, g2⟩)
        · exact ⟨.inr rfl, e⟩
        · exact ⟨.inl g, g2⟩
      · rintro ⟨g | g, g2⟩
        · exact .inr ⟨g, g2⟩
        · exact .inl g
    · rename_i e
      rw [kids_mem (by omega)]
      constructor
      · rintro ⟨g, g2⟩; exact ⟨.inl g, g2⟩
      · rintro ⟨g | g, g2⟩
        · exact ⟨g, g2⟩
        · rw [g] at g2; exact absurd g2 e
theorem kids_length {l : List NodeV} {p : Int} : ∀ {n : Nat}, n ≤ l.length → (kids l p n).length = ((l.take n).filter fun y => decide (y.parent = p)).length
  | 0, _ => by rw [kids_zero, List.take_zero]; rfl
  | n + 1, h => by
    rw [kids_succ p h, List.take_succ_eq_append_getElem h, List.filter_append, List.length_append, ← kids_length (by omega)]
    unfold kStep
    split
    · rename_i e
      rw [kPut_length, List.filter_cons, if_pos (by simpa using e)]
      rfl
    · rename_i e
      rw [List.filter_cons, if_neg (by simpa using e)]
      rfl
end Go.Proofs.YtmedaimndaaiiaaGreat

/- What a tree of nodes is, in the document's words, as a property of a list. No condition. -/
namespace Go.Proofs.YtmedaimndaaiiaaGreat

/-- What is asked of a node by itself, and beside the one ahead of it. -/
def HeadOk (l : List NodeV) (k : Nat) (x : NodeV) : Prop :=
  1 ≤ x.id ∧ x.id ≤ 1099511627776 ∧ (∀ j, j + 1 = k → ∀ y, l[j]? = some y → y.id < x.id) ∧ IsName x.name ∧ rChild l x.parent x.name = x.id ∧ (x.dir = true → x.text = []) ∧ x.text.length ≤ 8000 ∧ validB x.text = true
/-- What is asked of its parent. -/
def UpOk (l : List NodeV) (x : NodeV) : Prop := x.parent = 0 ∨ ∃ q, ∃ hq : q < l.length, rFind l x.parent = some q ∧ l[q].dir = true ∧ rWithin l x.parent x.id = false
def NodeOk (l : List NodeV) (k : Nat) (x : NodeV) : Prop := HeadOk l k x ∧ (cps x.text).length ≤ 2000 ∧ rTotal (l.take (k + 1)) ≤ 10000 ∧ UpOk l x
def SoundN (l : List NodeV) : Prop := l.length ≤ 100 ∧ ∀ (k : Nat) (hk : k < l.length), NodeOk l k l[k]
noncomputable def rSound (l : List NodeV) : Bool := @decide (SoundN l) (Classical.propDecidable _)
theorem rSound_yes {l : List NodeV} (h : SoundN l) : rSound l = true := by unfold rSound; exact @decide_eq_true _ (Classical.propDecidable _) h
theorem rSound_no {l : List NodeV} (h : ¬ SoundN l) : rSound l = false := by unfold rSound; exact @decide_eq_false _ (Classical.propDecidable _) h
theorem sound_of {l : List NodeV} (h : rSound l = true) : SoundN l := by
  unfold rSound at h
  exact @of_decide_eq_true _ (Classical.propDecidable _) h
noncomputable def headB (l : List NodeV) (k : Nat) (x : NodeV) : Bool := @decide (¬ HeadOk l k x) (Classical.propDecidable _)
theorem headB_bad {l : List NodeV} {k : Nat} {x : NodeV} (h : ¬ HeadOk l k x) : headB l k x = true := by unfold headB; exact @decide_eq_true _ (Classical.propDecidable _) h
theorem headB_ok {l : List NodeV} {k : Nat} {x : NodeV} (h : HeadOk l k x) : headB l k x = false := by unfold headB; exact @decide_eq_false _ (Classical.propDecidable _) (fun g => g h)
end Go.Proofs.YtmedaimndaaiiaaGreat
