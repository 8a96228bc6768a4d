/- What may be a transaction, what it does, what it names: as functions of what comes in. No condition. (Merged of 2 texts.) -/
import Derived.Test.YtmedaimndaaiiaaMCells
import Derived.Test.YtmedaimndaaiiaaMTm
/- When acts are the same, and what makes one plain. No condition. -/
namespace Go.Proofs.Ytmedaimndaaiiaa
open Go.RowKit Go.Deep

/-- All that acts are compared by. -/
def aKey (a : ActV) : Int × Int × Int × List Nat × Bool × List CompV := (a.kind, a.id, a.parent, a.name, a.dir, a.ops)
noncomputable def sameA (a b : ActV) : Bool := @decide (aKey a = aKey b) (Classical.propDecidable _)
theorem sameA_yes {a b : ActV} (h : aKey a = aKey b) : sameA a b = true := by unfold sameA; exact @decide_eq_true _ (Classical.propDecidable _) h
theorem sameA_no {a b : ActV} (h : ¬ aKey a = aKey b) : sameA a b = false := by unfold sameA; exact @decide_eq_false _ (Classical.propDecidable _) h
noncomputable def sameAs (l m : List ActV) : Bool := @decide (l.map aKey = m.map aKey) (Classical.propDecidable _)
theorem sameAs_yes {l m : List ActV} (h : l.map aKey = m.map aKey) : sameAs l m = true := by unfold sameAs; exact @decide_eq_true _ (Classical.propDecidable _) h
theorem sameAs_no {l m : List ActV} (h : ¬ l.map aKey = m.map aKey) : sameAs l m = false := by unfold sameAs; exact @decide_eq_false _ (Classical.propDecidable _) h
theorem sameAs_self (l : List ActV) : sameAs l l = true := sameAs_yes rfl
theorem sameA_self (a : ActV) : sameA a a = true := sameA_yes rfl

/-- An act with what its Kind names alone. -/
def aPlain (a : ActV) : ActV :=
  if a.kind = 1 then ⟨1, a.id, a.parent, a.name, a.dir, none, 0, []⟩
  else if a.kind = 2 then ⟨2, a.id, 0, [], false, none, 0, []⟩
  else if a.kind = 3 then ⟨3, a.id, a.parent, a.name, false, none, 0, []⟩
  else if a.kind = 4 then ⟨4, a.id, 0, [], false, a.opsA, a.opsC, a.ops⟩
  else ⟨a.kind, 0, 0, [], false, none, 0, []⟩
theorem aPlain_1 {a : ActV} (h : a.kind = 1) : aPlain a = ⟨1, a.id, a.parent, a.name, a.dir, none, 0, []⟩ := by rw [aPlain, if_pos h]
theorem aPlain_2 {a : ActV} (h : a.kind = 2) : aPlain a = ⟨2, a.id, 0, [], false, none, 0, []⟩ := by rw [aPlain, if_neg (by omega), if_pos h]
theorem aPlain_3 {a : ActV} (h : a.kind = 3) : aPlain a = ⟨3, a.id, a.parent, a.name, false, none, 0, []⟩ := by rw [aPlain, if_neg (by omega), if_neg (by omega), if_pos h]
theorem aPlain_4 {a : ActV} (h : a.kind = 4) : aPlain a = ⟨4, a.id, 0, [], false, a.opsA, a.opsC, a.ops⟩ := by rw [aPlain, if_neg (by omega), if_neg (by omega), if_neg (by omega), if_pos h]
theorem aPlain_0 {a : ActV} (h : a.kind ≠ 1 ∧ a.kind ≠ 2 ∧ a.kind ≠ 3 ∧ a.kind ≠ 4) : aPlain a = ⟨a.kind, 0, 0, [], false, none, 0, []⟩ := by rw [aPlain, if_neg h.1, if_neg h.2.1, if_neg h.2.2.1, if_neg h.2.2.2]
theorem Good.plain {a : ActV} (h : a.Good) : (aPlain a).Good := by
  obtain ⟨h1, h2, h3, h4, h5, h6, h7⟩ := h
  have z : Fit64 0 := by unfold Fit64; omega
  have zb : Bytes [] := ⟨fun x hx => by simp at hx, by simp⟩
  unfold aPlain
  split
  · exact ⟨show Fit64 1 by unfold Fit64; omega, h2, h3, h4, by simp, by simp, by simp⟩
  split
  · exact ⟨show Fit64 2 by unfold Fit64; omega, h2, z, zb, by simp, by simp, by simp⟩
  split
  · exact ⟨show Fit64 3 by unfold Fit64; omega, h2, h3, h4, by simp, by simp, by simp⟩
  split
  · exact ⟨show Fit64 4 by unfold Fit64; omega, h2, z, zb, h5, h6, h7⟩
  · exact ⟨h1, z, z, zb, by simp, by simp, by simp⟩
theorem comps_plain {w : World} {a : ActV} (h : CompsAt w a.opsA a.ops) : CompsAt w (aPlain a).opsA (aPlain a).ops := by
  unfold aPlain
  split
  · exact .inl rfl
  split
  · exact .inl rfl
  split
  · exact .inl rfl
  split
  · exact h
  · exact .inl rfl

end Go.Proofs.Ytmedaimndaaiiaa

/- What may be a transaction, what it does, what it names: as functions of what comes in. No condition. -/
namespace Go.Proofs.Ytmedaimndaaiiaa

/-- An act that may not be, whatever its Ops are. -/
def ABad (a : ActV) : Prop := a.kind < 1 ∨ 4 < a.kind ∨ aKey a ≠ aKey (aPlain a) ∨ a.id < 1 ∨ 1099511627776 < a.id ∨ a.parent < 0 ∨ 1099511627776 < a.parent ∨ (a.kind = 1 ∨ a.kind = 3) ∧ rName a.name = false
/-- The code points that an edit puts in. -/
noncomputable def insT (l : List CompV) : Nat := (l.map fun c => (cps c.text).length).sum
theorem insT_append (l m : List CompV) : insT (l ++ m) = insT l + insT m := by simp [insT]
theorem insT_take {l : List CompV} {k : Nat} (hk : k < l.length) : insT (l.take (k + 1)) = insT (l.take k) + (cps l[k].text).length := by
  rw [List.take_succ_eq_append_getElem hk, insT_append]
  simp [insT]
theorem insT_le (l : List CompV) : insT l ≤ tlen l := by
  induction l with
  | nil => simp [insT]
  | cons c l ih =>
    have h1 : insT (c :: l) = (cps c.text).length + insT l := by simp [insT]
    have h2 : tlen (c :: l) = c.text.length + tlen l := by simp [tlen]
    have := cps_le c.text
    omega
open Classical in
/-- What is said of the acts that are left, behind those of pre, which put in n. -/
noncomputable def chkR : List ActV → List ActV → Nat → Int
  | _, [], n => if 2000 < n then 3 else 0
  | pre, a :: r, n => if ABad a then 1 else if a.kind ≠ 4 then chkR (pre ++ [a]) r n else if rCheck a.ops ≠ 0 then (rCheck a.ops : Int) else if ∃ x ∈ pre, x.kind = 4 ∧ x.id = a.id then 1 else chkR (pre ++ [a]) r (n + insT a.ops)
noncomputable def rChk (l : List ActV) : Int := if 20 < l.length then 3 else chkR [] l 0
theorem chkR_end {pre : List ActV} {n : Nat} (h : ¬ 2000 < n) : chkR pre [] n = 0 := by rw [chkR, if_neg h]
theorem chkR_big {pre : List ActV} {n : Nat} (h : 2000 < n) : chkR pre [] n = 3 := by rw [chkR, if_pos h]
theorem chkR_bad {pre r : List ActV} {a : ActV} {n : Nat} (h : ABad a) : chkR pre (a :: r) n = 1 := by rw [chkR, if_pos h]
theorem chkR_skip {pre r : List ActV} {a : ActV} {n : Nat} (h : ¬ ABad a) (hk : a.kind ≠ 4) : chkR pre (a :: r) n = chkR (pre ++ [a]) r n := by rw [chkR, if_neg h, if_pos hk]
theorem chkR_err {pre r : List ActV} {a : ActV} {n : Nat} (h : ¬ ABad a) (hk : a.kind = 4) (he : rCheck a.ops ≠ 0) : chkR pre (a :: r) n = (rCheck a.ops : Int) := by rw [chkR, if_neg h, if_neg (by omega), if_pos he]
theorem chkR_twice {pre r : List ActV} {a : ActV} {n : Nat} (h : ¬ ABad a) (hk : a.kind = 4) (he : rCheck a.ops = 0) (hp : ∃ x ∈ pre, x.kind = 4 ∧ x.id = a.id) : chkR pre (a :: r) n = 1 := by rw [chkR, if_neg h, if_neg (by omega), if_neg (by omega), if_pos hp]
theorem chkR_more {pre r : List ActV} {a : ActV} {n : Nat} (h : ¬ ABad a) (hk : a.kind = 4) (he : rCheck a.ops = 0) (hp : ¬ ∃ x ∈ pre, x.kind = 4 ∧ x.id = a.id) : chkR pre (a :: r) n = chkR (pre ++ [a]) r (n + insT a.ops) := by rw [chkR, if_neg h, if_neg (by omega), if_neg (by omega), if_neg hp]
theorem rChk_big {l : List ActV} (h : 20 < l.length) : rChk l = 3 := by rw [rChk, if_pos h]
theorem rChk_fit {l : List ActV} (h : ¬ 20 < l.length) : rChk l = chkR [] l 0 := by rw [rChk, if_neg h]

/-- All of them, one behind the other: the tree, the place, the error. -/
noncomputable def doR : List NodeV → List ActV → Nat → List NodeV × Int × Int
  | T, [], i => (T, (i : Int), 0)
  | T, a :: r, i => if (rDo T a).2 = 0 then doR (rDo T a).1 r (i + 1) else ([], (i : Int), (rDo T a).2)
noncomputable def doAllV (T : List NodeV) (l : List ActV) : List NodeV × Int × Int := if rChk l ≠ 0 then ([], -1, rChk l) else doR T l 0
theorem doR_step {T X : List NodeV} {a : ActV} {r : List ActV} {i : Nat} (h : rDo T a = (X, 0)) : doR T (a :: r) i = doR X r (i + 1) := by rw [doR, h]; simp
theorem doR_stop {T X : List NodeV} {a : ActV} {r : List ActV} {i : Nat} {u : Int} (h : rDo T a = (X, u)) (hu : u ≠ 0) : doR T (a :: r) i = ([], (i : Int), u) := by rw [doR, h]; simp [hu]
theorem doR_tree {l : List ActV} : ∀ {T : List NodeV} {i : Nat}, TreeM T → (doR T l i).2.2 = 0 → TreeM (doR T l i).1 := by
  induction l with
  | nil => intro T i h _; exact h
  | cons a r ih =>
    intro T i h he
    have hd := h.does a
    rw [doR] at he ⊢
    split
    · rename_i h0
      rw [if_pos h0] at he
      exact ih hd he
    · rename_i h0
      rw [if_neg h0] at he
      exact absurd he h0

/-- Where a number goes among rising ones. -/
def tAt (x : Int) (out : List Int) : Nat → Nat
  | 0 => 0
  | k + 1 => if x < out[k]?.getD 0 then tAt x out k else k + 1
theorem tAt_le (x : Int) (out : List Int) : ∀ k, tAt x out k ≤ k
  | 0 => Nat.le_refl _
  | k + 1 => by
    rw [tAt]
    split
    · exact Nat.le_succ_of_le (tAt_le x out k)
    · exact Nat.le_refl _
theorem tAt_yes {x : Int} {out : List Int} {k : Nat} (hk : k < out.length) (h : x < out[k]) : tAt x out (k + 1) = tAt x out k := by
  rw [tAt, List.getElem?_eq_getElem hk, Option.getD_some, if_pos h]
theorem tAt_no {x : Int} {out : List Int} {k : Nat} (hk : k < out.length) (h : ¬ x < out[k]) : tAt x out (k + 1) = k + 1 := by
  rw [tAt, List.getElem?_eq_getElem hk, Option.getD_some, if_neg h]
/-- A number put in, once. -/
def tPut (out : List Int) (x : Int) : List Int :=
  if 0 < tAt x out out.length ∧ out[tAt x out out.length - 1]? = some x then out else (out.take (tAt x out out.length) ++ [x]) ++ out.drop (tAt x out out.length)
/-- What an act names. -/
def aIds (a : ActV) : List Int := a.id :: if (a.kind = 1 ∨ a.kind = 3) ∧ a.parent ≠ 0 then [a.parent] else []
def tch (l : List ActV) : List Int := (l.flatMap aIds).foldl tPut []
theorem tPut_len (out : List Int) (x : Int) : (tPut out x).length ≤ out.length + 1 := by
  unfold tPut
  split
  · omega
  · simp
    omega
theorem foldPut_len (xs : List Int) : ∀ out : List Int, (xs.foldl tPut out).length ≤ out.length + xs.length := by
  induction xs with
  | nil => intro out; simp
  | cons x xs ih =>
    intro out
    have h1 := ih (tPut out x)
    have h2 := tPut_len out x
    rw [List.foldl_cons, List.length_cons]
    omega
theorem aIds_len (a : ActV) : (aIds a).length ≤ 2 := by
  unfold aIds
  split <;> simp
end Go.Proofs.Ytmedaimndaaiiaa
