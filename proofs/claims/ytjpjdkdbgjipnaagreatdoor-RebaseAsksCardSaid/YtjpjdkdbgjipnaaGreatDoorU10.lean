/- A transaction behind what was done: as functions of what comes in. No condition. (Merged of 21 texts.) -/
import Derived.Test.YtjpjdkdbgjipnaaGreatDoorU21
import Derived.Test.YtjpjdkdbgjipnaaGreatDoorU6
import Derived.Deep.DeepAppendWide
import Derived.Laws.OwnMore
import Derived.Deep.AppendLies
import Derived.Test.YtjpjdkdbgjipnaaGreatDoorU1
import Derived.Deep.QuietTactic
import Derived.BigQuiet
import Derived.Test.YtjpjdkdbgjipnaaGreatDoorU46
import Derived.Test.YtjpjdkdbgjipnaaGreatDoorU48
import Derived.Deep.CutRange
import Derived.Deep.CutBlock
import Derived.BigRegion
import Derived.Deep.LoopGhost
import Derived.Test.YtjpjdkdbgjipnaaGreatDoorU8
namespace Go.Proofs.YtjpjdkdbgjipnaaGreatDoor
open Go.RowKit Go.Deep
def nHigh (A : Option Addr) (c : Nat) : Option Addr := if c = 0 then A else A.map (·.add (0 * 5))
def nLow (A : Option Addr) (k c : Nat) : Option Addr := if c = k then A else A.map (·.add (k * 5))
attribute [irreducible] nHigh nLow
def clm (l : List NodeV) : Nat → Int → List Nat → Option (Option (List Nat))
 | 0, id, acc => if id = 0 then some (some acc) else none
 | n + 1, id, acc => if id = 0 then some (some acc) else match rFind l id with
  | none => some none
  | some k => clm l n ((l[k]?).getD default).parent (((l[k]?).getD default).name ++ (if acc = [] then [] else 47 :: acc))
attribute [irreducible] clm
end Go.Proofs.YtjpjdkdbgjipnaaGreatDoor
namespace Go.Proofs.YtjpjdkdbgjipnaaGreatDoor
def up (l : List NodeV) (id : Int) : Option Int := (rFind l id).map fun k => ((l[k]?).getD default).parent
variable {P Q : Int → Option Int}
variable {l : List NodeV}
variable {l : List NodeV}
variable {l : List NodeV}
variable {l : List NodeV}
variable {l : List NodeV}
end Go.Proofs.YtjpjdkdbgjipnaaGreatDoor
namespace Go.Proofs.YtjpjdkdbgjipnaaGreatDoor
open Go.RowKit Go.Deep
variable {l : List NodeV}
def ActOk (a : ActV) : Prop := a.Good ∧ a.name.length ≤ 4000 ∧ Fine1 a.ops ∧ tlen a.ops ≤ 4000
end Go.Proofs.YtjpjdkdbgjipnaaGreatDoor
namespace Go.Proofs.YtjpjdkdbgjipnaaGreatDoor
def ABad (a : ActV) : Prop := a.kind < 1 ∨ 4 < a.kind ∨ aKey a ≠ aKey (aPlain a) ∨ a.id < 1 ∨ 1099511627776 < a.id ∨ a.parent < 0 ∨ 1099511627776 < a.parent ∨ (a.kind = 1 ∨ a.kind = 3) ∧ rName a.name = false
noncomputable def insT (l : List CompV) : Nat := (l.map fun c => (cps c.text).length).sum
theorem yy444 (l m : List CompV) : insT (l ++ m) = insT l + insT m := by simp [insT]
theorem yy591 {l : List CompV} {k : Nat} (hk : k < l.length) : insT (l.take (k + 1)) = insT (l.take k) + (cps l[k].text).length := by
 rw [List.take_succ_eq_append_getElem hk, yy444]
 simp [insT]
theorem yy646 (l : List CompV) : insT l ≤ tlen l := by
 induction l with
 | nil => simp [insT]
 | cons c l ih =>
  have h1 : insT (c :: l) = (cps c.text).length + insT l := by simp [insT]
  have h2 : tlen (c :: l) = c.text.length + tlen l := by simp [tlen]
  have := cps_le c.text
  omega
open Classical in
noncomputable def chkR : List ActV → List ActV → Nat → Int
 | _, [], n => if 2000 < n then 3 else 0
 | pre, a :: r, n => if ABad a then 1 else if a.kind ≠ 4 then chkR (pre ++ [a]) r n else if rCheck a.ops ≠ 0 then (rCheck a.ops : Int) else if ∃ x ∈ pre, x.kind = 4 ∧ x.id = a.id then 1 else chkR (pre ++ [a]) r (n + insT a.ops)
noncomputable def rChk (l : List ActV) : Int := if 20 < l.length then 3 else chkR [] l 0
theorem yy281 {pre : List ActV} {n : Nat} (h : ¬ 2000 < n) : chkR pre [] n = 0 := by rw [chkR, if_neg h]
theorem yy685 {pre : List ActV} {n : Nat} (h : 2000 < n) : chkR pre [] n = 3 := by rw [chkR, if_pos h]
theorem yy514 {pre r : List ActV} {a : ActV} {n : Nat} (h : ABad a) : chkR pre (a :: r) n = 1 := by rw [chkR, if_pos h]
theorem yy282 {pre r : List ActV} {a : ActV} {n : Nat} (h : ¬ ABad a) (hk : a.kind ≠ 4) : chkR pre (a :: r) n = chkR (pre ++ [a]) r n := by rw [chkR, if_neg h, if_pos hk]
theorem yy354 {pre r : List ActV} {a : ActV} {n : Nat} (h : ¬ ABad a) (hk : a.kind = 4) (he : rCheck a.ops ≠ 0) : chkR pre (a :: r) n = (rCheck a.ops : Int) := by rw [chkR, if_neg h, if_neg (by omega), if_pos he]
theorem yy311 {pre r : List ActV} {a : ActV} {n : Nat} (h : ¬ ABad a) (hk : a.kind = 4) (he : rCheck a.ops = 0) (hp : ∃ x ∈ pre, x.kind = 4 ∧ x.id = a.id) : chkR pre (a :: r) n = 1 := by rw [chkR, if_neg h, if_neg (by omega), if_neg (by omega), if_pos hp]
theorem yy283 {pre r : List ActV} {a : ActV} {n : Nat} (h : ¬ ABad a) (hk : a.kind = 4) (he : rCheck a.ops = 0) (hp : ¬ ∃ x ∈ pre, x.kind = 4 ∧ x.id = a.id) : chkR pre (a :: r) n = chkR (pre ++ [a]) r (n + insT a.ops) := by rw [chkR, if_neg h, if_neg (by omega), if_neg (by omega), if_neg hp]
theorem yy355 {l : List ActV} (h : 20 < l.length) : rChk l = 3 := by rw [rChk, if_pos h]
theorem yy222 {l : List ActV} (h : ¬ 20 < l.length) : rChk l = chkR [] l 0 := by rw [rChk, if_neg h]
def getK0 (ks : List OneK) (id : Int) : OneK := (ks.find? fun k => decide (k.id = id)).getD (oneZ 0)
def rWhy (a : ActV) (ks : List OneK) : Int :=
 if a.kind = 4 then (if (getK0 ks a.id).removed then 12 else 0)
 else if a.kind = 2 then (if ((getK0 ks a.id).edited || (getK0 ks a.id).moved) && !(getK0 ks a.id).removed then 13 else 0)
 else if a.kind = 3 then (if (getK0 ks a.id).removed then 12 else if (getK0 ks a.id).moved = true ∧ ((getK0 ks a.id).parent ≠ a.parent ∨ (getK0 ks a.id).name ≠ a.name) then 13 else if (getK0 ks a.parent).removed then 12 else 0)
 else if a.kind = 1 then (if (getK0 ks a.id).created then 13 else if (getK0 ks a.parent).removed then 12 else 0)
 else 0
def rbLeft (a : ActV) (ks : List OneK) : Bool := (decide (a.kind = 2) && (getK0 ks a.id).removed) || (decide (a.kind = 3) && (getK0 ks a.id).moved)
def rbEdit (a : ActV) (ks : List OneK) : Prop := a.kind = 4 ∧ (getK0 ks a.id).edited = true ∧ (getK0 ks a.id).ops ≠ []
open Classical in
noncomputable def rbOne (a : ActV) (ks : List OneK) : Option ActV × Int :=
 if rWhy a ks ≠ 0 then (none, rWhy a ks) else if rbLeft a ks = true then (none, 0) else
  if rbEdit a ks then (if (rOver false a.ops (getK0 ks a.id).ops).2 ≠ 0 then (none, ((rOver false a.ops (getK0 ks a.id).ops).2 : Int)) else (some { a with ops := (rOver false a.ops (getK0 ks a.id).ops).1 }, 0))
  else (some a, 0)
noncomputable def rbR (ks : List OneK) : List ActV → List ActV → List ActV × Int
 | out, [] => (out, 0)
 | out, a :: r => if (rbOne a ks).2 ≠ 0 then ([], (rbOne a ks).2) else rbR ks (out ++ (rbOne a ks).1.toList) r
noncomputable def rRb (l : List ActV) (ks : List OneK) : List ActV × Int :=
 if rChk l ≠ 0 then ([], rChk l) else if (rbR ks [] l).2 ≠ 0 then ([], (rbR ks [] l).2) else if rChk (rbR ks [] l).1 ≠ 0 then ([], rChk (rbR ks [] l).1) else ((rbR ks [] l).1, 0)
noncomputable def yy106 (l : List ActV) (ks : List OneK) : List OneK := if (rRb l ks).2 ≠ 0 then ks else overK ks l
noncomputable def yy58 : List ActV → List (List ActV) → List ActV × Int
 | l, [] => (l, 0)
 | l, c :: cs => if (rRb l (eff c)).2 ≠ 0 then ([], (rRb l (eff c)).2) else yy58 (rRb l (eff c)).1 cs
theorem yy592 {a b : ActV} (h : aKey a = aKey b) : aKey (aPlain a) = aKey (aPlain b) := by
 simp only [aKey, Prod.mk.injEq] at h
 obtain ⟨h1, h2, h3, h4, h5, h6⟩ := h
 unfold aPlain
 rw [h1, h2, h3, h4, h5]
 split
 ·rfl
 split
 ·rfl
 split
 ·rfl
 split
 ·simp only [aKey, h6]
 ·rfl
theorem yy686 {a b : ActV} (h : aKey a = aKey b) : ABad a ↔ ABad b := by
 have hp := yy592 h
 have hk := h
 simp only [aKey, Prod.mk.injEq] at h
 obtain ⟨h1, h2, h3, h4, _, _⟩ := h
 unfold ABad
 rw [hk, hp, h1, h2, h3, h4]
theorem yy356 : ∀ {r r' pre pre' : List ActV} {n : Nat}, r.map aKey = r'.map aKey → pre.map aKey = pre'.map aKey → chkR pre r n = chkR pre' r' n
 | [], [], _, _, _, _, _ => by rw [chkR, chkR]
 | [], _ :: _, _, _, _, h, _ => by cases h
 | _ :: _, [], _, _, _, h, _ => by cases h
 | a :: r, b :: r', pre, pre', n, h, hp => by
  rw [List.map_cons, List.map_cons] at h
  injection h with ha hr
  have hkk := ha
  simp only [aKey, Prod.mk.injEq] at ha
  obtain ⟨h1, h2, _, _, _, h6⟩ := ha
  have hpre : ((pre ++ [a]).map aKey) = ((pre' ++ [b]).map aKey) := by rw [List.map_append, List.map_append, hp, List.map_singleton, List.map_singleton, hkk]
  have hex : (∃ x ∈ pre, x.kind = 4 ∧ x.id = a.id) ↔ ∃ x ∈ pre', x.kind = 4 ∧ x.id = b.id := by
   rw [h2]
   have key : ∀ {p p' : List ActV}, p.map aKey = p'.map aKey → (∃ x ∈ p, x.kind = 4 ∧ x.id = b.id) → ∃ x ∈ p', x.kind = 4 ∧ x.id = b.id := by
    intro p p' hpp ⟨x, hx, e1, e2⟩
    have : aKey x ∈ p'.map aKey := by rw [← hpp]; exact List.mem_map.2 ⟨x, hx, rfl⟩
    obtain ⟨y, hy, e3⟩ := List.mem_map.1 this
    simp only [aKey, Prod.mk.injEq] at e3
    exact ⟨y, hy, by rw [e3.1]; exact e1, by rw [e3.2.1]; exact e2⟩
   exact ⟨key hp, key hp.symm⟩
  rw [chkR, chkR.eq_def pre']
  simp only
  rw [propext (yy686 hkk), h1, h6, yy356 hr hpre, yy356 (n := n + insT b.ops) hr hpre]
  simp only [hex]
theorem yy284 {l m : List ActV} (h : l.map aKey = m.map aKey) : rChk l = rChk m := by
 have hl : l.length = m.length := by have := congrArg List.length h; simpa using this
 unfold rChk
 rw [hl, yy356 h rfl]
theorem yy151 {a : ActV} {ks : List OneK} (h : rWhy a ks ≠ 0) : rbOne a ks = (none, rWhy a ks) := by rw [rbOne, if_pos h]
theorem yy107 {a : ActV} {ks : List OneK} (h : rWhy a ks = 0) (hl : rbLeft a ks = true) : rbOne a ks = (none, 0) := by rw [rbOne, if_neg (fun e => e h), if_pos hl]
theorem yy108 {a : ActV} {ks : List OneK} (h : rWhy a ks = 0) (hl : rbLeft a ks = false) (he : rbEdit a ks) (h0 : (rOver false a.ops (getK0 ks a.id).ops).2 = 0) : rbOne a ks = (some { a with ops := (rOver false a.ops (getK0 ks a.id).ops).1 }, 0) := by
 rw [rbOne, if_neg (fun e => e h), if_neg (by rw [hl]; decide), if_pos he, if_neg (fun e => e h0)]
theorem yy203 {a : ActV} {ks : List OneK} (h : rWhy a ks = 0) (hl : rbLeft a ks = false) (he : rbEdit a ks) (h0 : (rOver false a.ops (getK0 ks a.id).ops).2 ≠ 0) : rbOne a ks = (none, ((rOver false a.ops (getK0 ks a.id).ops).2 : Int)) := by
 rw [rbOne, if_neg (fun e => e h), if_neg (by rw [hl]; decide), if_pos he, if_pos h0]
theorem yy152 {a : ActV} {ks : List OneK} (h : rWhy a ks = 0) (hl : rbLeft a ks = false) (he : ¬ rbEdit a ks) : rbOne a ks = (some a, 0) := by
 rw [rbOne, if_neg (fun e => e h), if_neg (by rw [hl]; decide), if_neg he]
theorem yy135 {ks : List OneK} {out r : List ActV} {a : ActV} (h : (rbOne a ks).2 ≠ 0) : rbR ks out (a :: r) = ([], (rbOne a ks).2) := by rw [rbR, if_pos h]
theorem rbR_go {ks : List OneK} {out r : List ActV} {a : ActV} (h : (rbOne a ks).2 = 0) : rbR ks out (a :: r) = rbR ks (out ++ (rbOne a ks).1.toList) r := by rw [rbR, if_neg (fun e => e h)]
end Go.Proofs.YtjpjdkdbgjipnaaGreatDoor
