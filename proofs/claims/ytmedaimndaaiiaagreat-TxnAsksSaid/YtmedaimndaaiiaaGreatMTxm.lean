/- What acts do not name is as it was; what they name is told once each, rising; one row of acts behind another one. No condition. (Merged of 3 texts.) -/
import Derived.Test.YtmedaimndaaiiaaGreatMCells
import Derived.Test.YtmedaimndaaiiaaGreatMTm
/- When acts are the same, and what makes one plain. No condition. -/
namespace Go.Proofs.YtmedaimndaaiiaaGreat
open Go.RowKit Go.Deep

/-- All that acts are compared by. -/
def aKey (a : ActV) : Int × Int × Int × List Nat × Bool × List CompV := (a.kind, a.id, a.parent, a.name, a.dir, a.ops)
noncomputable def sameA (a b : ActV) : Bool := @decide (aKey a = aKey b) (Classical.propDecidable _)
theorem sameA_yes {a b : ActV} (h : aKey a = aKey b) : sameA a b = true := by unfold sameA; exact @decide_eq_true _ (Classical.propDecidable _) h
theorem sameA_no {a b : ActV} (h : ¬ aKey a = aKey b) : sameA a b = false := by unfold sameA; exact @decide_eq_false _ (Classical.propDecidable _) h
noncomputable def sameAs (l m : List ActV) : Bool := @decide (l.map aKey = m.map aKey) (Classical.propDecidable _)
theorem sameAs_yes {l m : List ActV} (h : l.map aKey = m.map aKey) : sameAs l m = true := by unfold sameAs; exact @decide_eq_true _ (Classical.propDecidable _) h
theorem sameAs_no {l m : List ActV} (h : ¬ l.map aKey = m.map aKey) : sameAs l m = false := by unfold sameAs; exact @decide_eq_false _ (Classical.propDecidable _) h
theorem sameAs_self (l : List ActV) : sameAs l l = true := sameAs_yes rfl
theorem sameA_self (a : ActV) : sameA a a = true := sameA_yes rfl

/-- An act with what its Kind names alone. -/
def aPlain (a : ActV) : ActV :=
  if a.kind = 1 then ⟨1, a.id, a.parent, a.name, a.dir, none, 0, []⟩
  else if a.kind = 2 then ⟨2, a.id, 0, [], false, none, 0, []⟩
  else if a.kind = 3 then ⟨3, a.id, a.parent, a.name, false, none, 0, []⟩
  else if a.kind = 4 then ⟨4, a.id, 0, [], false, a.opsA, a.opsC, a.ops⟩
  else ⟨a.kind, 0, 0, [], false, none, 0, []⟩
theorem aPlain_1 {a : ActV} (h : a.kind = 1) : aPlain a = ⟨1, a.id, a.parent, a.name, a.dir, none, 0, []⟩ := by rw [aPlain, if_pos h]
theorem aPlain_2 {a : ActV} (h : a.kind = 2) : aPlain a = ⟨2, a.id, 0, [], false, none, 0, []⟩ := by rw [aPlain, if_neg (by omega), if_pos h]
theorem aPlain_3 {a : ActV} (h : a.kind = 3) : aPlain a = ⟨3, a.id, a.parent, a.name, false, none, 0, []⟩ := by rw [aPlain, if_neg (by omega), if_neg (by omega), if_pos h]
theorem aPlain_4 {a : ActV} (h : a.kind = 4) : aPlain a = ⟨4, a.id, 0, [], false, a.opsA, a.opsC, a.ops⟩ := by rw [aPlain, if_neg (by omega), if_neg (by omega), if_neg (by omega), if_pos h]
theorem aPlain_0 {a : ActV} (h : a.kind ≠ 1 ∧ a.kind ≠ 2 ∧ a.kind ≠ 3 ∧ a.kind ≠ 4) : aPlain a = ⟨a.kind, 0, 0, [], false, none, 0, []⟩ := by rw [aPlain, if_neg h.1, if_neg h.2.1, if_neg h.2.2.1, if_neg h.2.2.2]
theorem Good.plain {a : ActV} (h : a.Good) : (aPlain a).Good := by
  obtain ⟨h1, h2, h3, h4, h5, h6, h7⟩ := h
  have z : Fit64 0 := by unfold Fit64; omega
  have zb : Bytes [] := ⟨fun x hx => by simp at hx, by simp⟩
  unfold aPlain
  split
  · exact ⟨show Fit64 1 by unfold Fit64; omega, h2, h3, h4, by simp, by simp, by simp⟩
  split
  · exact ⟨show Fit64 2 by unfold Fit64; omega, h2, z, zb, by simp, by simp, by simp⟩
  split
  · exact ⟨show Fit64 3 by unfold Fit64; omega, h2, h3, h4, by simp, by simp, by simp⟩
  split
  · exact ⟨show Fit64 4 by unfold Fit64; omega, h2, z, zb, h5, h6, h7⟩
  · exact ⟨h1, z, z, zb, by simp, by simp, by simp⟩
theorem comps_plain {w : World} {a : ActV} (h : CompsAt w a.opsA a.ops) : CompsAt w (aPlain a).opsA (aPlain a).ops := by
  unfold aPlain
  split
  · exact .inl rfl
  split
  · exact .inl rfl
  split
  · exact .inl rfl
  split
  · exact h
  · exact .inl rfl

end Go.Proofs.YtmedaimndaaiiaaGreat

/- What may be a transaction, what it does, what it names: as functions of what comes in. No condition. -/
namespace Go.Proofs.YtmedaimndaaiiaaGreat

/-- An act that may not be, whatever its Ops are. -/
def ABad (a : ActV) : Prop := a.kind < 1 ∨ 4 < a.kind ∨ aKey a ≠ aKey (aPlain a) ∨ a.id < 1 ∨ 1099511627776 < a.id ∨ a.parent < 0 ∨ 1099511627776 < a.parent ∨ (a.kind = 1 ∨ a.kind = 3) ∧ rName a.name = false
/-- The code points that an edit puts in. -/
noncomputable def insT (l : List CompV) : Nat := (l.map fun c => (cps c.text).length).sum
theorem insT_append (l m : List CompV) : insT (l ++ m) = insT l + insT m := by simp [insT]
theorem insT_take {l : List CompV} {k : Nat} (hk : k < l.length) : insT (l.take (k + 1)) = insT (l.take k) + (cps l[k].text).length := by
  rw [List.take_succ_eq_append_getElem hk, insT_append]
  simp [insT]
theorem insT_le (l : List CompV) : insT l ≤ tlen l := by
  induction l with
  | nil => simp [insT]
  | cons c l ih =>
    have h1 : insT (c :: l) = (cps c.text).length + insT l := by simp [insT]
    have h2 : tlen (c :: l) = c.text.length + tlen l := by simp [tlen]
    have := cps_le c.text
    omega
open Classical in
/-- What is said of the acts that are left, behind those of pre, which put in n. -/
noncomputable def chkR : List ActV → List ActV → Nat → Int
  | _, [], n => if 2000 < n then 3 else 0
  | pre, a :: r, n => if ABad a then 1 else if a.kind ≠ 4 then chkR (pre ++ [a]) r n else if rCheck a.ops ≠ 0 then (rCheck a.ops : Int) else if ∃ x ∈ pre, x.kind = 4 ∧ x.id = a.id then 1 else chkR (pre ++ [a]) r (n + insT a.ops)
noncomputable def rChk (l : List ActV) : Int := if 20 < l.length then 3 else chkR [] l 0
theorem chkR_end {pre : List ActV} {n : Nat} (h : ¬ 2000 < n) : chkR pre [] n = 0 := by rw [chkR, if_neg h]
theorem chkR_big {pre : List ActV} {n : Nat} (h : 2000 < n) : chkR pre [] n = 3 := by rw [chkR, if_pos h]
theorem chkR_bad {pre r : List ActV} {a : ActV} {n : Nat} (h : ABad a) : chkR pre (a :: r) n = 1 := by rw [chkR, if_pos h]
theorem chkR_skip {pre r : List ActV} {a : ActV} {n : Nat} (h : ¬ ABad a) (hk : a.kind ≠ 4) : chkR pre (a :: r) n = chkR (pre ++ [a]) r n := by rw [chkR, if_neg h, if_pos hk]
theorem chkR_err {pre r : List ActV} {a : ActV} {n : Nat} (h : ¬ ABad a) (hk : a.kind = 4) (he : rCheck a.ops ≠ 0) : chkR pre (a :: r) n = (rCheck a.ops : Int) := by rw [chkR, if_neg h, if_neg (by omega), if_pos he]
theorem chkR_twice {pre r : List ActV} {a : ActV} {n : Nat} (h : ¬ ABad a) (hk : a.kind = 4) (he : rCheck a.ops = 0) (hp : ∃ x ∈ pre, x.kind = 4 ∧ x.id = a.id) : chkR pre (a :: r) n = 1 := by rw [chkR, if_neg h, if_neg (by omega), if_neg (by omega), if_pos hp]
theorem chkR_more {pre r : List ActV} {a : ActV} {n : Nat} (h : ¬ ABad a) (hk : a.kind = 4) (he : rCheck a.ops = 0) (hp : ¬ ∃ x ∈ pre, x.kind = 4 ∧ x.id = a.id) : chkR pre (a :: r) n = chkR (pre ++ [a]) r (n + insT a.ops) := by rw [chkR, if_neg h, if_neg (by omega), if_neg (by omega), if_neg hp]
theorem rChk_big {l : List ActV} (h : 20 < l.length) : rChk l = 3 := by rw [rChk, if_pos h]
theorem rChk_fit {l : List ActV} (h : ¬ 20 < l.length) : rChk l = chkR [] l 0 := by rw [rChk, if_neg h]

/-- All of them, one behind the other: the tree, the place, the error. -/
noncomputable def doR : List NodeV → List ActV → Nat → List NodeV × Int × Int
  | T, [], i => (T, (i : Int), 0)
  | T, a :: r, i => if (rDo T a).2 = 0 then doR (rDo T a).1 r (i + 1) else ([], (i : Int), (rDo T a).2)
noncomputable def doAllV (T : List NodeV) (l : List ActV) : List NodeV × Int × Int := if rChk l ≠ 0 then ([], -1, rChk l) else doR T l 0
theorem doR_step {T X : List NodeV} {a : ActV} {r : List ActV} {i : Nat} (h : rDo T a = (X, 0)) : doR T (a :: r) i = doR X r (i + 1) := by rw [doR, h]; simp
theorem doR_stop {T X : List NodeV} {a : ActV} {r : List ActV} {i : Nat} {u : Int} (h : rDo T a = (X, u)) (hu : u ≠ 0) : doR T (a :: r) i = ([], (i : Int), u) := by rw [doR, h]; simp [hu]
theorem doR_tree {l : List ActV} : ∀ {T : List NodeV} {i : Nat}, TreeM T → (doR T l i).2.2 = 0 → TreeM (doR T l i).1 := by
  induction l with
  | nil => intro T i h _; exact h
  | cons a r ih =>
    intro T i h he
    have hd := h.does a
    rw [doR] at he ⊢
    split
    · rename_i h0
      rw [if_pos h0] at he
      exact ih hd he
    · rename_i h0
      rw [if_neg h0] at he
      exact absurd he h0

/-- Where a number goes among rising ones. -/
def tAt (x : Int) (out : List Int) : Nat → Nat
  | 0 => 0
  | k + 1 => if x < out[k]?.getD 0 then tAt x out k else k + 1
theorem tAt_le (x : Int) (out : List Int) : ∀ k, tAt x out k ≤ k
  | 0 => Nat.le_refl _
  | k + 1 => by
    rw [tAt]
    split
    · exact Nat.le_succ_of_le (tAt_le x out k)
    · exact Nat.le_refl _
theorem tAt_yes {x : Int} {out : List Int} {k : Nat} (hk : k < out.length) (h : x < out[k]) : tAt x out (k + 1) = tAt x out k := by
  rw [tAt, List.getElem?_eq_getElem hk, Option.getD_some, if_pos h]
theorem tAt_no {x : Int} {out : List Int} {k : Nat} (hk : k < out.length) (h : ¬ x < out[k]) : tAt x out (k + 1) = k + 1 := by
  rw [tAt, List.getElem?_eq_getElem hk, Option.getD_some, if_neg h]
/-- A number put in, once. -/
def tPut (out : List Int) (x : Int) : List Int :=
  if 0 < tAt x out out.length ∧ out[tAt x out out.length - 1]? = some x then out else (out.take (tAt x out out.length) ++ [x]) ++ out.drop (tAt x out out.length)
/-- What an act names. -/
def aIds (a : ActV) : List Int := a.id :: if (a.kind = 1 ∨ a.kind = 3) ∧ a.parent ≠ 0 then [a.parent] else []
def tch (l : List ActV) : List Int := (l.flatMap aIds).foldl tPut []
theorem tPut_len (out : List Int) (x : Int) : (tPut out x).length ≤ out.length + 1 := by
  unfold tPut
  split
  · omega
  · simp
    omega
theorem foldPut_len (xs : List Int) : ∀ out : List Int, (xs.foldl tPut out).length ≤ out.length + xs.length := by
  induction xs with
  | nil => intro out; simp
  | cons x xs ih =>
    intro out
    have h1 := ih (tPut out x)
    have h2 := tPut_len out x
    rw [List.foldl_cons, List.length_cons]
    omega
theorem aIds_len (a : ActV) : (aIds a).length ≤ 2 := by
  unfold aIds
  split <;> simp
end Go.Proofs.YtmedaimndaaiiaaGreat

/- What acts do not name is as it was; what they name is told once each, rising; one row of acts behind another one. No condition. -/
namespace Go.Proofs.YtmedaimndaaiiaaGreat

theorem mem_set_ne {l : List NodeV} {k : Nat} (hk : k < l.length) {z y : NodeV} (hy : y ∈ l) (hne : y ≠ l[k]) : y ∈ l.set k z := by
  obtain ⟨i, hi, e⟩ := List.getElem_of_mem hy
  by_cases hik : k = i
  · subst hik
    exact absurd e.symm hne
  · refine List.mem_iff_getElem.2 ⟨i, by simpa using hi, ?_⟩
    rw [List.getElem_set_ne hik, e]
theorem set_mem {l : List NodeV} {k : Nat} {z y : NodeV} (h : y ∈ l.set k z) : y = z ∨ y ∈ l := by
  rcases List.mem_or_eq_of_mem_set h with g | g
  · exact .inr g
  · exact .inl g
/-- An act that is done keeps all but the node of its ID. -/
theorem rDo_keeps {l X : List NodeV} {a : ActV} (h : rDo l a = (X, 0)) : (∀ y ∈ l, y.id ≠ a.id → y ∈ X) ∧ (∀ y ∈ X, y.id = a.id ∨ y ∈ l) := by
  by_cases h1 : a.kind = 1
  · by_cases g1 : IdOk a.id ∧ IsName a.name
    · cases g2 : rFind l a.id with
      | some k => rw [rDo_c2 h1 g1 g2] at h; injection h with _ h; omega
      | none =>
        by_cases g3 : rPlace l a.parent a.name 0 = 0
        · by_cases g4 : 100 ≤ l.length
          · rw [rDo_c4 h1 g1 g2 g3 g4] at h; injection h with _ h; omega
          · rw [rDo_c5 h1 g1 g2 g3 g4] at h
            injection h with h _
            subst h
            refine ⟨fun y hy _ => ?_, fun y hy => ?_⟩
            · rw [← List.take_append_drop (rAt l a.id) l] at hy
              rcases List.mem_append.1 hy with q | q
              · exact List.mem_append_left _ q
              · exact List.mem_append_right _ (List.mem_cons_of_mem _ q)
            · rcases List.mem_append.1 hy with q | q
              · exact .inr (List.mem_of_mem_take q)
              · rcases List.mem_cons.1 q with q | q
                · exact .inl (by rw [q]; rfl)
                · exact .inr (List.mem_of_mem_drop q)
        · rw [rDo_c3 h1 g1 g2 g3] at h; injection h with _ h; exact absurd h g3
    · rw [rDo_c1 h1 g1] at h; injection h with _ h; omega
  by_cases h2 : a.kind = 2
  · cases g2 : rFind l a.id with
    | none => rw [rDo_r1 h2 g2] at h; injection h with _ h; omega
    | some k =>
      by_cases g3 : ∃ y ∈ l, y.parent = a.id
      · rw [rDo_r2 h2 g2 g3] at h; injection h with _ h; omega
      · rw [rDo_r3 h2 g2 g3] at h
        injection h with h _
        subst h
        obtain ⟨hk, hid, _⟩ := rFind_some g2
        refine ⟨fun y hy hne => ?_, fun y hy => ?_⟩
        · rw [← List.take_append_drop k l] at hy
          rcases List.mem_append.1 hy with q | q
          · exact List.mem_append_left _ q
          · rw [List.drop_eq_getElem_cons hk] at q
            rcases List.mem_cons.1 q with q | q
            · rw [q] at hne; exact absurd hid hne
            · exact List.mem_append_right _ q
        · rcases List.mem_append.1 hy with q | q
          · exact .inr (List.mem_of_mem_take q)
          · exact .inr (List.mem_of_mem_drop q)
  by_cases h3 : a.kind = 3
  · by_cases g1 : IsName a.name
    · cases g2 : rFind l a.id with
      | none => rw [rDo_m2 h3 g1 g2] at h; injection h with _ h; omega
      | some k =>
        obtain ⟨hk, hid, _⟩ := rFind_some g2
        by_cases g3 : rPlace l a.parent a.name a.id = 0
        · rw [rDo_m4 h3 g1 hk g2 g3] at h
          injection h with h _
          subst h
          refine ⟨fun y hy hne => mem_set_ne hk hy (fun e => hne (by rw [e, hid])), fun y hy => ?_⟩
          rcases set_mem hy with q | q
          · exact .inl (by rw [q]; exact hid)
          · exact .inr q
        · rw [rDo_m3 h3 g1 g2 g3] at h; injection h with _ h; exact absurd h g3
    · rw [rDo_m1 h3 g1] at h; injection h with _ h; omega
  by_cases h4 : a.kind = 4
  · cases g2 : rFind l a.id with
    | none => rw [rDo_e1 h4 g2] at h; injection h with _ h; omega
    | some k =>
      obtain ⟨hk, hid, _⟩ := rFind_some g2
      rw [rDo_e h4 hk g2] at h
      split at h
      · injection h with _ h; omega
      split at h
      · rename_i g; injection h with _ h; exact absurd h (by omega)
      split at h
      · injection h with _ h; omega
      · injection h with h _
        subst h
        refine ⟨fun y hy hne => mem_set_ne hk hy (fun e => hne (by rw [e, hid])), fun y hy => ?_⟩
        rcases set_mem hy with q | q
        · exact .inl (by rw [q]; exact hid)
        · exact .inr q
  · rw [rDo_o h1 h2 h3 h4] at h; injection h with _ h; omega
/-- So do all of them. -/
theorem doR_keeps {l : List ActV} : ∀ {T : List NodeV} {i : Nat}, (doR T l i).2.2 = 0 → (∀ y ∈ T, (∀ a ∈ l, y.id ≠ a.id) → y ∈ (doR T l i).1) ∧ (∀ y ∈ (doR T l i).1, (∃ a ∈ l, y.id = a.id) ∨ y ∈ T) := by
  induction l with
  | nil => intro T i _; exact ⟨fun y hy _ => hy, fun y hy => .inr hy⟩
  | cons a r ih =>
    intro T i he
    by_cases h0 : (rDo T a).2 = 0
    · have hs : rDo T a = ((rDo T a).1, 0) := by rw [← h0]
      rw [doR_step hs] at he ⊢
      obtain ⟨k1, k2⟩ := rDo_keeps hs
      obtain ⟨i1, i2⟩ := ih he
      refine ⟨fun y hy h => i1 y (k1 y hy (h a (by simp))) fun b hb => h b (by simp [hb]), fun y hy => ?_⟩
      rcases i2 y hy with ⟨b, hb, e⟩ | g
      · exact .inl ⟨b, by simp [hb], e⟩
      · rcases k2 y g with e | g
        · exact .inl ⟨a, by simp, e⟩
        · exact .inr g
    · rw [doR_stop (X := (rDo T a).1) (u := (rDo T a).2) rfl h0] at he
      exact absurd he h0
theorem doR_place {l : List ActV} : ∀ {T : List NodeV} {i : Nat}, (doR T l i).2.2 = 0 → (doR T l i).2.1 = ((i + l.length : Nat) : Int) := by
  induction l with
  | nil => intro T i _; rfl
  | cons a r ih =>
    intro T i he
    by_cases h0 : (rDo T a).2 = 0
    · have hs : rDo T a = ((rDo T a).1, 0) := by rw [← h0]
      rw [doR_step hs] at he ⊢
      rw [ih he, List.length_cons]
      congr 1
      omega
    · rw [doR_stop (X := (rDo T a).1) (u := (rDo T a).2) rfl h0] at he
      exact absurd he h0
/-- From another place on: the same tree, the same error. -/
theorem doR_from {l : List ActV} : ∀ {T : List NodeV} (i j : Nat), (doR T l i).1 = (doR T l j).1 ∧ (doR T l i).2.2 = (doR T l j).2.2 ∧ (i : Int) ≤ (doR T l i).2.1 := by
  induction l with
  | nil => intro T i j; exact ⟨rfl, rfl, Int.le_refl _⟩
  | cons a r ih =>
    intro T i j
    by_cases h0 : (rDo T a).2 = 0
    · have hs : rDo T a = ((rDo T a).1, 0) := by rw [← h0]
      rw [doR_step hs, doR_step hs]
      obtain ⟨g1, g2, g3⟩ := ih (T := (rDo T a).1) (i + 1) (j + 1)
      exact ⟨g1, g2, by omega⟩
    · rw [doR_stop (X := (rDo T a).1) (u := (rDo T a).2) rfl h0, doR_stop (X := (rDo T a).1) (u := (rDo T a).2) rfl h0]
      exact ⟨rfl, rfl, Int.le_refl _⟩
/-- One row behind another one is both as one. -/
theorem doR_append {l m : List ActV} : ∀ {T : List NodeV} {i : Nat}, (doR T l i).2.2 = 0 → doR T (l ++ m) i = doR (doR T l i).1 m (i + l.length) := by
  induction l with
  | nil => intro T i _; rfl
  | cons a r ih =>
    intro T i he
    by_cases h0 : (rDo T a).2 = 0
    · have hs : rDo T a = ((rDo T a).1, 0) := by rw [← h0]
      rw [doR_step hs] at he
      rw [List.cons_append, doR_step hs, doR_step hs, ih he, List.length_cons]
      congr 1
      omega
    · rw [doR_stop (X := (rDo T a).1) (u := (rDo T a).2) rfl h0] at he
      exact absurd he h0

/-- Rising, each once. -/
def Rise (l : List Int) : Prop := l.Pairwise (· < ·)
theorem tAt_spec {x : Int} {out : List Int} : ∀ {k : Nat}, k ≤ out.length → (∀ (i : Nat) (h : i < out.length), tAt x out k ≤ i → i < k → x < out[i]) ∧ (0 < tAt x out k → ∃ h2 : tAt x out k - 1 < out.length, ¬ x < out[tAt x out k - 1])
  | 0, _ => ⟨fun i h h1 h2 => absurd h2 (by omega), fun h => absurd h (by simp [tAt])⟩
  | k + 1, hk => by
    have hk' : k < out.length := by omega
    by_cases hx : x < out[k]
    · rw [tAt_yes hk' hx]
      obtain ⟨g1, g2⟩ := tAt_spec (x := x) (out := out) (k := k) (by omega)
      refine ⟨fun i h h1 h2 => ?_, g2⟩
      by_cases e : i = k
      · subst e; exact hx
      · exact g1 i h h1 (by omega)
    · rw [tAt_no hk' hx]
      exact ⟨fun i h h1 h2 => absurd h2 (by omega), fun _ => ⟨show k + 1 - 1 < out.length from hk', by simpa using hx⟩⟩
theorem tPut_mem {out : List Int} {x y : Int} : y ∈ tPut out x ↔ y = x ∨ y ∈ out := by
  unfold tPut
  split
  · rename_i h
    have hx : x ∈ out := List.mem_of_getElem? h.2
    exact ⟨.inr, fun g => g.elim (fun e => by rw [e]; exact hx) id⟩
  · rw [List.mem_append, List.mem_append, List.mem_singleton]
    have e := List.take_append_drop (tAt x out out.length) out
    constructor
    · rintro ((g | g) | g)
      · exact .inr (List.mem_of_mem_take g)
      · exact .inl g
      · exact .inr (List.mem_of_mem_drop g)
    · rintro (g | g)
      · exact .inl (.inr g)
      · rw [← e] at g
        rcases List.mem_append.1 g with g | g
        · exact .inl (.inl g)
        · exact .inr g
theorem tPut_rise {out : List Int} {x : Int} (h : Rise out) : Rise (tPut out x) := by
  unfold tPut
  split
  · exact h
  · rename_i hn
    obtain ⟨s1, s2⟩ := tAt_spec (x := x) (out := out) (Nat.le_refl out.length)
    have hq := tAt_le x out out.length
    generalize tAt x out out.length = q at hn s1 s2 hq
    unfold Rise at h ⊢
    have e := List.take_append_drop q out
    rw [← e, List.pairwise_append] at h
    obtain ⟨p1, p2, p3⟩ := h
    have lo : ∀ y ∈ out.take q, y < x := by
      intro y hy
      have hq0 : 0 < q := by
        rcases Nat.eq_zero_or_pos q with e0 | e0
        · rw [e0] at hy; simp at hy
        · exact e0
      obtain ⟨h2, h3⟩ := s2 hq0
      have hne : out[q - 1] ≠ x := fun e => hn ⟨hq0, by rw [List.getElem?_eq_getElem h2, e]⟩
      have hlast : out[q - 1] < x := by omega
      obtain ⟨i, hi, e2⟩ := List.getElem_of_mem hy
      rw [List.length_take] at hi
      rw [List.getElem_take] at e2
      by_cases hi2 : i = q - 1
      · subst hi2; rw [← e2]; exact hlast
      · have hp := List.pairwise_iff_getElem.1 p1 i (q - 1) (by rw [List.length_take]; omega) (by rw [List.length_take]; omega) (by omega)
        rw [List.getElem_take, List.getElem_take, e2] at hp
        omega
    have hi : ∀ y ∈ out.drop q, x < y := by
      intro y hy
      obtain ⟨i, hi, e2⟩ := List.getElem_of_mem hy
      rw [List.length_drop] at hi
      rw [List.getElem_drop] at e2
      rw [← e2]
      exact s1 (q + i) (by omega) (by omega) (by omega)
    rw [List.pairwise_append, List.pairwise_append]
    refine ⟨⟨p1, by simp, fun a ha b hb => by rw [List.mem_singleton.1 hb]; exact lo a ha⟩, p2, fun a ha b hb => ?_⟩
    rcases List.mem_append.1 ha with g | g
    · exact p3 a g b hb
    · rw [List.mem_singleton.1 g]; exact hi b hb
theorem fold_rise (xs : List Int) : ∀ {out : List Int}, Rise out → Rise (xs.foldl tPut out) := by
  induction xs with
  | nil => intro out h; exact h
  | cons x xs ih => intro out h; exact ih (tPut_rise h)
theorem fold_mem (xs : List Int) : ∀ {out : List Int} {y : Int}, y ∈ xs.foldl tPut out ↔ y ∈ xs ∨ y ∈ out := by
  induction xs with
  | nil => intro out y; simp
  | cons x xs ih =>
    intro out y
    rw [List.foldl_cons, ih, tPut_mem, List.mem_cons]
    constructor
    · rintro (g | g | g)
      · exact .inl (.inr g)
      · exact .inl (.inl g)
      · exact .inr g
    · rintro ((g | g) | g)
      · exact .inr (.inl g)
      · exact .inl g
      · exact .inr (.inr g)
theorem tch_rise (l : List ActV) : Rise (tch l) := fold_rise _ List.Pairwise.nil
theorem tch_id {l : List ActV} {a : ActV} (h : a ∈ l) : a.id ∈ tch l := by
  unfold tch
  rw [fold_mem]
  exact .inl (List.mem_flatMap.2 ⟨a, h, by simp [aIds]⟩)
theorem ids_len (l : List ActV) : (l.flatMap aIds).length ≤ 2 * l.length := by
  induction l with
  | nil => simp
  | cons a r ih =>
    have := aIds_len a
    rw [List.flatMap_cons, List.length_append, List.length_cons]
    omega
theorem tch_len (l : List ActV) : (tch l).length ≤ 2 * l.length := by
  have h1 := foldPut_len (l.flatMap aIds) []
  rw [List.length_nil, Nat.zero_add] at h1
  exact Nat.le_trans h1 (ids_len l)
end Go.Proofs.YtmedaimndaaiiaaGreat
