/- What may be a transaction, what it does, what it names: as functions of what comes in. No condition. (Merged of 3 texts.) -/
import Derived.Test.YtjpjdkdbgjipnaaDoorV15
import Derived.Test.YtjpjdkdbgjipnaaDoorV16
import Derived.Test.YtjpjdkdbgjipnaaDoorV17
import Derived.Test.YtjpjdkdbgjipnaaDoorV24
import Derived.Test.YtjpjdkdbgjipnaaDoorV47
namespace Go.Proofs.YtjpjdkdbgjipnaaDoor
open Go.RowKit Go.Deep
variable {l : List NodeV}
theorem TreeM.good (h : TreeM l) : ∀ y ∈ l, y.Good := by
 intro y hy
 have hnd := h.nd y hy
 refine ⟨by unfold Fit64; have := hnd.1; have := hnd.2.1; omega, ?_, ?_, ?_⟩
 ·rcases h.dirs y hy with g | ⟨q, hq, e, _⟩
  ·rw [g]; unfold Fit64; omega
  ·have h1 := (h.nd q hq).1
   have h2 := (h.nd q hq).2.1
   unfold Fit64
   omega
 ·refine ⟨fun x hx => ?_, ?_⟩
  ·have := yy96.1 ((yy37.1 hnd.2.2.1).2.2.2.2 x hx)
   omega
  ·have := (yy37.1 hnd.2.2.1).2.1
   unfold maxLen
   omega
 ·obtain ⟨vs, hv⟩ := hnd.2.2.2.2.2.1
  refine ⟨fun x hx => ?_, ?_⟩
  ·rw [← hv.bytes] at hx
   exact E_lt hv.may x hx
  ·have := hnd.2.2.2.2.1
   unfold maxLen
   omega
def ActOk (a : ActV) : Prop := a.Good ∧ a.name.length ≤ 4000 ∧ Fine1 a.ops ∧ tlen a.ops ≤ 4000
end Go.Proofs.YtjpjdkdbgjipnaaDoor
namespace Go.Proofs.YtjpjdkdbgjipnaaDoor
def ABad (a : ActV) : Prop := a.kind < 1 ∨ 4 < a.kind ∨ aKey a ≠ aKey (aPlain a) ∨ a.id < 1 ∨ 1099511627776 < a.id ∨ a.parent < 0 ∨ 1099511627776 < a.parent ∨ (a.kind = 1 ∨ a.kind = 3) ∧ rName a.name = false
noncomputable def insT (l : List CompV) : Nat := (l.map fun c => (cps c.text).length).sum
theorem yy420 (l m : List CompV) : insT (l ++ m) = insT l + insT m := by simp [insT]
theorem yy572 {l : List CompV} {k : Nat} (hk : k < l.length) : insT (l.take (k + 1)) = insT (l.take k) + (cps l[k].text).length := by
 rw [List.take_succ_eq_append_getElem hk, yy420]
 simp [insT]
theorem yy628 (l : List CompV) : insT l ≤ tlen l := by
 induction l with
 | nil => simp [insT]
 | cons c l ih =>
  have h1 : insT (c :: l) = (cps c.text).length + insT l := by simp [insT]
  have h2 : tlen (c :: l) = c.text.length + tlen l := by simp [tlen]
  have := cps_le c.text
  omega
open Classical in
noncomputable def chkR : List ActV → List ActV → Nat → Int
 | _, [], n => if 2000 < n then 3 else 0
 | pre, a :: r, n => if ABad a then 1 else if a.kind ≠ 4 then chkR (pre ++ [a]) r n else if rCheck a.ops ≠ 0 then (rCheck a.ops : Int) else if ∃ x ∈ pre, x.kind = 4 ∧ x.id = a.id then 1 else chkR (pre ++ [a]) r (n + insT a.ops)
noncomputable def rChk (l : List ActV) : Int := if 20 < l.length then 3 else chkR [] l 0
theorem yy255 {pre : List ActV} {n : Nat} (h : ¬ 2000 < n) : chkR pre [] n = 0 := by rw [chkR, if_neg h]
theorem yy680 {pre : List ActV} {n : Nat} (h : 2000 < n) : chkR pre [] n = 3 := by rw [chkR, if_pos h]
theorem yy493 {pre r : List ActV} {a : ActV} {n : Nat} (h : ABad a) : chkR pre (a :: r) n = 1 := by rw [chkR, if_pos h]
theorem yy256 {pre r : List ActV} {a : ActV} {n : Nat} (h : ¬ ABad a) (hk : a.kind ≠ 4) : chkR pre (a :: r) n = chkR (pre ++ [a]) r n := by rw [chkR, if_neg h, if_pos hk]
theorem yy332 {pre r : List ActV} {a : ActV} {n : Nat} (h : ¬ ABad a) (hk : a.kind = 4) (he : rCheck a.ops ≠ 0) : chkR pre (a :: r) n = (rCheck a.ops : Int) := by rw [chkR, if_neg h, if_neg (by omega), if_pos he]
theorem yy289 {pre r : List ActV} {a : ActV} {n : Nat} (h : ¬ ABad a) (hk : a.kind = 4) (he : rCheck a.ops = 0) (hp : ∃ x ∈ pre, x.kind = 4 ∧ x.id = a.id) : chkR pre (a :: r) n = 1 := by rw [chkR, if_neg h, if_neg (by omega), if_neg (by omega), if_pos hp]
theorem yy257 {pre r : List ActV} {a : ActV} {n : Nat} (h : ¬ ABad a) (hk : a.kind = 4) (he : rCheck a.ops = 0) (hp : ¬ ∃ x ∈ pre, x.kind = 4 ∧ x.id = a.id) : chkR pre (a :: r) n = chkR (pre ++ [a]) r (n + insT a.ops) := by rw [chkR, if_neg h, if_neg (by omega), if_neg (by omega), if_neg hp]
theorem yy333 {l : List ActV} (h : 20 < l.length) : rChk l = 3 := by rw [rChk, if_pos h]
theorem yy199 {l : List ActV} (h : ¬ 20 < l.length) : rChk l = chkR [] l 0 := by rw [rChk, if_neg h]
noncomputable def doR : List NodeV → List ActV → Nat → List NodeV × Int × Int
 | T, [], i => (T, (i : Int), 0)
 | T, a :: r, i => if (rDo T a).2 = 0 then doR (rDo T a).1 r (i + 1) else ([], (i : Int), (rDo T a).2)
noncomputable def doAllV (T : List NodeV) (l : List ActV) : List NodeV × Int × Int := if rChk l ≠ 0 then ([], -1, rChk l) else doR T l 0
theorem yy494 {T X : List NodeV} {a : ActV} {r : List ActV} {i : Nat} (h : rDo T a = (X, 0)) : doR T (a :: r) i = doR X r (i + 1) := by rw [doR, h]; simp
theorem yy495 {T X : List NodeV} {a : ActV} {r : List ActV} {i : Nat} {u : Int} (h : rDo T a = (X, u)) (hu : u ≠ 0) : doR T (a :: r) i = ([], (i : Int), u) := by rw [doR, h]; simp [hu]
theorem yy681 {l : List ActV} : ∀ {T : List NodeV} {i : Nat}, TreeM T → (doR T l i).2.2 = 0 → TreeM (doR T l i).1 := by
 induction l with
 | nil => intro T i h _; exact h
 | cons a r ih =>
  intro T i h he
  have hd := h.does a
  rw [doR] at he ⊢
  split
  ·rename_i h0
   rw [if_pos h0] at he
   exact ih hd he
  ·rename_i h0
   rw [if_neg h0] at he
   exact absurd he h0
end Go.Proofs.YtjpjdkdbgjipnaaDoor
