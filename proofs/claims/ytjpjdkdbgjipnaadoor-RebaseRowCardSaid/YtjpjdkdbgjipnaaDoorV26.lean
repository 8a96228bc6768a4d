/- The landed txn: whether there is an edit of one already, and how much is put in. Conditions: acts that may be looked at. (Merged of 5 texts.) -/
import Derived.Test.YtjpjdkdbgjipnaaDoorV18
import Derived.Test.YtjpjdkdbgjipnaaDoorV24
import Derived.Test.YtjpjdkdbgjipnaaDoorV20
import Derived.Test.YtjpjdkdbgjipnaaDoorV47
import Derived.Test.YtjpjdkdbgjipnaaDoorV4
import Derived.BigQuiet
import Derived.Laws.Rows
import Derived.Test.YtjpjdkdbgjipnaaDoorV22
import Derived.Test.YtjpjdkdbgjipnaaDoorV45
import Derived.Test.YtjpjdkdbgjipnaaDoorShelf
namespace Go.Proofs.YtjpjdkdbgjipnaaDoor
def getK0 (ks : List OneK) (id : Int) : OneK := (ks.find? fun k => decide (k.id = id)).getD (oneZ 0)
def rWhy (a : ActV) (ks : List OneK) : Int :=
 if a.kind = 4 then (if (getK0 ks a.id).removed then 12 else 0)
 else if a.kind = 2 then (if ((getK0 ks a.id).edited || (getK0 ks a.id).moved) && !(getK0 ks a.id).removed then 13 else 0)
 else if a.kind = 3 then (if (getK0 ks a.id).removed then 12 else if (getK0 ks a.id).moved = true ∧ ((getK0 ks a.id).parent ≠ a.parent ∨ (getK0 ks a.id).name ≠ a.name) then 13 else if (getK0 ks a.parent).removed then 12 else 0)
 else if a.kind = 1 then (if (getK0 ks a.id).created then 13 else if (getK0 ks a.parent).removed then 12 else 0)
 else 0
def rbLeft (a : ActV) (ks : List OneK) : Bool := (decide (a.kind = 2) && (getK0 ks a.id).removed) || (decide (a.kind = 3) && (getK0 ks a.id).moved)
def rbEdit (a : ActV) (ks : List OneK) : Prop := a.kind = 4 ∧ (getK0 ks a.id).edited = true ∧ (getK0 ks a.id).ops ≠ []
open Classical in
noncomputable def rbOne (a : ActV) (ks : List OneK) : Option ActV × Int :=
 if rWhy a ks ≠ 0 then (none, rWhy a ks) else if rbLeft a ks = true then (none, 0) else
  if rbEdit a ks then (if (rOver false a.ops (getK0 ks a.id).ops).2 ≠ 0 then (none, ((rOver false a.ops (getK0 ks a.id).ops).2 : Int)) else (some { a with ops := (rOver false a.ops (getK0 ks a.id).ops).1 }, 0))
  else (some a, 0)
noncomputable def rbR (ks : List OneK) : List ActV → List ActV → List ActV × Int
 | out, [] => (out, 0)
 | out, a :: r => if (rbOne a ks).2 ≠ 0 then ([], (rbOne a ks).2) else rbR ks (out ++ (rbOne a ks).1.toList) r
noncomputable def rRb (l : List ActV) (ks : List OneK) : List ActV × Int :=
 if rChk l ≠ 0 then ([], rChk l) else if (rbR ks [] l).2 ≠ 0 then ([], (rbR ks [] l).2) else if rChk (rbR ks [] l).1 ≠ 0 then ([], rChk (rbR ks [] l).1) else ((rbR ks [] l).1, 0)
noncomputable def yy290 (l : List ActV) (ks : List OneK) : List OneK := if (rRb l ks).2 ≠ 0 then ks else overK ks l
noncomputable def yy24 : List ActV → List (List ActV) → List ActV × Int
 | l, [] => (l, 0)
 | l, c :: cs => if (rRb l (eff c)).2 ≠ 0 then ([], (rRb l (eff c)).2) else yy24 (rRb l (eff c)).1 cs
theorem yy573 {a b : ActV} (h : aKey a = aKey b) : aKey (aPlain a) = aKey (aPlain b) := by
 simp only [aKey, Prod.mk.injEq] at h
 obtain ⟨h1, h2, h3, h4, h5, h6⟩ := h
 unfold aPlain
 rw [h1, h2, h3, h4, h5]
 split
 ·rfl
 split
 ·rfl
 split
 ·rfl
 split
 ·simp only [aKey, h6]
 ·rfl
theorem yy682 {a b : ActV} (h : aKey a = aKey b) : ABad a ↔ ABad b := by
 have hp := yy573 h
 have hk := h
 simp only [aKey, Prod.mk.injEq] at h
 obtain ⟨h1, h2, h3, h4, _, _⟩ := h
 unfold ABad
 rw [hk, hp, h1, h2, h3, h4]
theorem yy334 : ∀ {r r' pre pre' : List ActV} {n : Nat}, r.map aKey = r'.map aKey → pre.map aKey = pre'.map aKey → chkR pre r n = chkR pre' r' n
 | [], [], _, _, _, _, _ => by rw [chkR, chkR]
 | [], _ :: _, _, _, _, h, _ => by cases h
 | _ :: _, [], _, _, _, h, _ => by cases h
 | a :: r, b :: r', pre, pre', n, h, hp => by
  rw [List.map_cons, List.map_cons] at h
  injection h with ha hr
  have hkk := ha
  simp only [aKey, Prod.mk.injEq] at ha
  obtain ⟨h1, h2, _, _, _, h6⟩ := ha
  have hpre : ((pre ++ [a]).map aKey) = ((pre' ++ [b]).map aKey) := by rw [List.map_append, List.map_append, hp, List.map_singleton, List.map_singleton, hkk]
  have hex : (∃ x ∈ pre, x.kind = 4 ∧ x.id = a.id) ↔ ∃ x ∈ pre', x.kind = 4 ∧ x.id = b.id := by
   rw [h2]
   have key : ∀ {p p' : List ActV}, p.map aKey = p'.map aKey → (∃ x ∈ p, x.kind = 4 ∧ x.id = b.id) → ∃ x ∈ p', x.kind = 4 ∧ x.id = b.id := by
    intro p p' hpp ⟨x, hx, e1, e2⟩
    have : aKey x ∈ p'.map aKey := by rw [← hpp]; exact List.mem_map.2 ⟨x, hx, rfl⟩
    obtain ⟨y, hy, e3⟩ := List.mem_map.1 this
    simp only [aKey, Prod.mk.injEq] at e3
    exact ⟨y, hy, by rw [e3.1]; exact e1, by rw [e3.2.1]; exact e2⟩
   exact ⟨key hp, key hp.symm⟩
  rw [chkR, chkR.eq_def pre']
  simp only
  rw [propext (yy682 hkk), h1, h6, yy334 hr hpre, yy334 (n := n + insT b.ops) hr hpre]
  simp only [hex]
theorem yy258 {l m : List ActV} (h : l.map aKey = m.map aKey) : rChk l = rChk m := by
 have hl : l.length = m.length := by have := congrArg List.length h; simpa using this
 unfold rChk
 rw [hl, yy334 h rfl]
theorem yy177 {a : ActV} {ks : List OneK} (h : rWhy a ks ≠ 0) : rbOne a ks = (none, rWhy a ks) := by rw [rbOne, if_pos h]
theorem yy138 {a : ActV} {ks : List OneK} (h : rWhy a ks = 0) (hl : rbLeft a ks = true) : rbOne a ks = (none, 0) := by rw [rbOne, if_neg (fun e => e h), if_pos hl]
theorem yy97 {a : ActV} {ks : List OneK} (h : rWhy a ks = 0) (hl : rbLeft a ks = false) (he : rbEdit a ks) (h0 : (rOver false a.ops (getK0 ks a.id).ops).2 = 0) : rbOne a ks = (some { a with ops := (rOver false a.ops (getK0 ks a.id).ops).1 }, 0) := by
 rw [rbOne, if_neg (fun e => e h), if_neg (by rw [hl]; decide), if_pos he, if_neg (fun e => e h0)]
theorem yy259 {a : ActV} {ks : List OneK} (h : rWhy a ks = 0) (hl : rbLeft a ks = false) (he : rbEdit a ks) (h0 : (rOver false a.ops (getK0 ks a.id).ops).2 ≠ 0) : rbOne a ks = (none, ((rOver false a.ops (getK0 ks a.id).ops).2 : Int)) := by
 rw [rbOne, if_neg (fun e => e h), if_neg (by rw [hl]; decide), if_pos he, if_pos h0]
theorem yy139 {a : ActV} {ks : List OneK} (h : rWhy a ks = 0) (hl : rbLeft a ks = false) (he : ¬ rbEdit a ks) : rbOne a ks = (some a, 0) := by
 rw [rbOne, if_neg (fun e => e h), if_neg (by rw [hl]; decide), if_neg he]
theorem yy200 {ks : List OneK} {out r : List ActV} {a : ActV} (h : (rbOne a ks).2 ≠ 0) : rbR ks out (a :: r) = ([], (rbOne a ks).2) := by rw [rbR, if_pos h]
theorem rbR_go {ks : List OneK} {out r : List ActV} {a : ActV} (h : (rbOne a ks).2 = 0) : rbR ks out (a :: r) = rbR ks (out ++ (rbOne a ks).1.toList) r := by rw [rbR, if_neg (fun e => e h)]
theorem yy386 {a b : ActV} : aKey a = aKey b ↔ a.kind = b.kind ∧ a.id = b.id ∧ a.parent = b.parent ∧ a.name = b.name ∧ a.dir = b.dir ∧ a.ops = b.ops := by simp only [aKey, Prod.mk.injEq]
theorem yy683 {a b : ActV} (ks : List OneK) (h : aKey a = aKey b) : rWhy a ks = rWhy b ks := by
 obtain ⟨h1, h2, h3, h4, _, _⟩ := yy386.1 h
 unfold rWhy
 rw [h1, h2, h3, h4]
theorem yy574 {a b : ActV} (ks : List OneK) (h : aKey a = aKey b) : (rbOne a ks).2 = (rbOne b ks).2 ∧ (rbOne a ks).1.toList.map aKey = (rbOne b ks).1.toList.map aKey := by
 have hw := yy683 ks h
 have hk := h
 obtain ⟨h1, h2, h3, h4, h5, h6⟩ := yy386.1 h
 have hl : rbLeft a ks = rbLeft b ks := by unfold rbLeft; rw [h1, h2]
 have he : rbEdit a ks ↔ rbEdit b ks := by unfold rbEdit; rw [h1, h2]
 by_cases g1 : rWhy a ks = 0
 ·have g1' : rWhy b ks = 0 := by rw [← hw]; exact g1
  cases g2 : rbLeft a ks with
  | true =>
   rw [yy138 g1 g2, yy138 g1' (by rw [← hl]; exact g2)]
   exact ⟨rfl, rfl⟩
  | false =>
   have g2' : rbLeft b ks = false := by rw [← hl]; exact g2
   by_cases g3 : rbEdit a ks
   ·have g3' := he.1 g3
    by_cases g4 : (rOver false a.ops (getK0 ks a.id).ops).2 = 0
    ·have g4' := g4
     rw [h6, h2] at g4'
     rw [yy97 g1 g2 g3 g4, yy97 g1' g2' g3' g4']
     refine ⟨rfl, ?_⟩
     simp only [Option.toList_some, List.map_cons, List.map_nil, aKey, h1, h2, h3, h4, h5, h6]
    ·have g4' := g4
     rw [h6, h2] at g4'
     rw [yy259 g1 g2 g3 g4, yy259 g1' g2' g3' g4', h6, h2]
     exact ⟨rfl, rfl⟩
   ·have g3' : ¬ rbEdit b ks := fun q => g3 (he.2 q)
    rw [yy139 g1 g2 g3, yy139 g1' g2' g3']
    refine ⟨rfl, ?_⟩
    simp only [Option.toList_some, List.map_cons, List.map_nil, hk]
 ·have g1' : rWhy b ks ≠ 0 := by rw [← hw]; exact g1
  rw [yy177 g1, yy177 g1', hw]
  exact ⟨rfl, rfl⟩
theorem yy629 (ks : List OneK) : ∀ {r r' out out' : List ActV}, r.map aKey = r'.map aKey → out.map aKey = out'.map aKey → (rbR ks out r).2 = (rbR ks out' r').2 ∧ (rbR ks out r).1.map aKey = (rbR ks out' r').1.map aKey
 | [], [], _, _, _, ho => by rw [rbR, rbR]; exact ⟨rfl, ho⟩
 | [], _ :: _, _, _, h, _ => by cases h
 | _ :: _, [], _, _, h, _ => by cases h
 | a :: r, b :: r', out, out', h, ho => by
  rw [List.map_cons, List.map_cons] at h
  injection h with hab hr
  obtain ⟨k1, k2⟩ := yy574 ks hab
  by_cases g : (rbOne a ks).2 = 0
  ·have g' : (rbOne b ks).2 = 0 := by rw [← k1]; exact g
   rw [rbR_go g, rbR_go g']
   refine yy629 ks hr ?_
   rw [List.map_append, List.map_append, ho, k2]
  ·have g' : (rbOne b ks).2 ≠ 0 := by rw [← k1]; exact g
   rw [yy200 g, yy200 g', k1]
   exact ⟨rfl, rfl⟩
theorem yy630 (ks : List OneK) {l m : List ActV} (h : l.map aKey = m.map aKey) : (rRb l ks).2 = (rRb m ks).2 ∧ (rRb l ks).1.map aKey = (rRb m ks).1.map aKey := by
 obtain ⟨k1, k2⟩ := yy629 ks h (rfl : ([] : List ActV).map aKey = [].map aKey)
 unfold rRb
 rw [yy258 h, k1, yy258 k2]
 split
 ·exact ⟨rfl, rfl⟩
 split
 ·exact ⟨rfl, rfl⟩
 split
 ·exact ⟨rfl, rfl⟩
 ·exact ⟨rfl, k2⟩
theorem yy52 (l : List ActV) : yy24 l [] = (l, 0) := by rw [yy24]
theorem yy48 {l c : List ActV} {cs : List (List ActV)} (h : (rRb l (eff c)).2 ≠ 0) : yy24 l (c :: cs) = ([], (rRb l (eff c)).2) := by rw [yy24, if_pos h]
theorem yy49 {l c : List ActV} {cs : List (List ActV)} (h : (rRb l (eff c)).2 = 0) : yy24 l (c :: cs) = yy24 (rRb l (eff c)).1 cs := by rw [yy24, if_neg (fun e => e h)]
theorem yy224 : ∀ {cs : List (List ActV)} {l m : List ActV}, l.map aKey = m.map aKey → (yy24 l cs).2 = (yy24 m cs).2 ∧ (yy24 l cs).1.map aKey = (yy24 m cs).1.map aKey
 | [], _, _, h => by rw [yy52, yy52]; exact ⟨rfl, h⟩
 | c :: cs, l, m, h => by
  obtain ⟨k1, k2⟩ := yy630 (eff c) h
  by_cases g : (rRb l (eff c)).2 = 0
  ·have g' : (rRb m (eff c)).2 = 0 := by rw [← k1]; exact g
   rw [yy49 g, yy49 g']
   exact yy224 k2
  ·have g' : (rRb m (eff c)).2 ≠ 0 := by rw [← k1]; exact g
   rw [yy48 g, yy48 g', k1]
   exact ⟨rfl, rfl⟩
theorem yy140 : ∀ {cs ds : List (List ActV)} {l : List ActV}, (yy24 l cs).2 = 0 → yy24 l (cs ++ ds) = yy24 (yy24 l cs).1 ds
 | [], ds, l, _ => by rw [yy52]; rfl
 | c :: cs, ds, l, h => by
  by_cases g : (rRb l (eff c)).2 = 0
  ·rw [yy49 g] at h
   rw [List.cons_append, yy49 g, yy49 g]
   exact yy140 h
  ·rw [yy48 g] at h
   exact absurd h g
theorem yy83 : ∀ {cs ds : List (List ActV)} {l : List ActV}, (yy24 l cs).2 ≠ 0 → yy24 l (cs ++ ds) = yy24 l cs
 | [], ds, l, h => by rw [yy52] at h; exact absurd rfl h
 | c :: cs, ds, l, h => by
  by_cases g : (rRb l (eff c)).2 = 0
  ·rw [yy49 g] at h
   rw [List.cons_append, yy49 g, yy49 g]
   exact yy83 h
  ·rw [List.cons_append, yy48 g, yy48 g]
theorem yy421 {cs ds : List (List ActV)} {l : List ActV} (h : (yy24 l (cs ++ ds)).2 = 0) : (yy24 l cs).2 = 0 := by
 by_cases g : (yy24 l cs).2 = 0
 ·exact g
 ·rw [yy83 g] at h
  exact absurd h g
end Go.Proofs.YtjpjdkdbgjipnaaDoor
namespace Go.Proofs.YtjpjdkdbgjipnaaDoor
open Go.RowKit Go.Deep
def bitZ (b : Bool) (n : Int) : Int := if b = true then n else 0
def orZ (e r c m l o : Bool) : Int := bits .or .i64 (bits .or .i64 (bits .or .i64 (bits .or .i64 (bits .or .i64 (bitZ e 1) (bitZ r 2)) (bitZ c 4)) (bitZ m 8)) (bitZ l 16)) (bitZ o 32)
noncomputable def elseB (x : OneK) (p : Int) (n : List Nat) : Bool := x.moved && (decide (x.parent ≠ p) || !decide (x.name = n))
noncomputable def fndZ (x : OneK) (yr : Bool) (p : Int) (n : List Nat) : Int := orZ x.edited x.removed x.created x.moved (elseB x p n) yr
theorem yy337 {w : World} {ks : List OneK} {id : Int} {e : Ending} (h : GetRes w (getK ks id) e) : ∃ (y : OneV) (b : Bool), e = .returned (.tuple #[.agg (yy8 y).toArray, .bool b]) ∧ yy6 w y.opsA y.k.ops ∧ y.Good ∧ y.k = getK0 ks id := by
 obtain ⟨y, b, he, hc, hg, h⟩ := h
 refine ⟨y, b, he, hc, hg, ?_⟩
 have e2 : getK0 ks id = (getK ks id).getD (oneZ 0) := rfl
 rcases h with ⟨k, h1, h2, _⟩ | ⟨h1, h2, _⟩
 ·rw [e2, h1, h2]; rfl
 ·rw [e2, h1, h2]; rfl
set_option maxRecDepth 100000 in
theorem yy741 (b : Bool) (n : Int) (w : World) :
  Calls Tryd.prog 66 #[.bool b, .int .i64 n] w fun e w' => e = .returned (.int .i64 (bitZ b n)) ∧ Below w.heap.size w w' := by
 cases b with
 | true =>
  have HE : Hid (bitZ true n = n) := xh (by simp [bitZ])
  go_enter Tryd.func66, Tryd.ntmps66
  go_wp2
  go_ret
  exact ⟨by rw [HE.out]; rfl, Below.refl _ _⟩
 | false =>
  have HE : Hid (bitZ false n = 0) := xh (by simp [bitZ])
  go_enter Tryd.func66, Tryd.ntmps66
  go_wp2
  go_ret
  exact ⟨by rw [HE.out]; rfl, Below.refl _ _⟩
set_option maxHeartbeats 8000000 in
set_option maxRecDepth 100000 in
theorem yy581 (A : Option Addr) (c : Nat) (bs : List OneV) (a : ActV) (hl : bs.length ≤ 1048576) (hg : ∀ y ∈ bs, y.Good ∧ KeyH y.k) (hn : Bytes a.name) (w : World) (hA : OnesAt w A bs) :
  Calls Tryd.prog 43 #[.agg (yy0 a).toArray, .slice A bs.length c] w fun e w' => e = .returned (.int .i64 (fndZ (getK0 (bs.map (·.k)) a.id) (getK0 (bs.map (·.k)) a.parent).removed a.parent a.name)) ∧ Below w.heap.size w w' := by
 have GG := xh (fun (i : Int) v (h : Below w.heap.size w v) => yy293 A c bs i hl hg v (OnesAt.below hA h))
 have GB := xh (fun b n v => yy741 b n v)
 obtain ⟨ak, ai, ap, an, ad, aA, aC, ao⟩ := a
 unfold yy0
 simp only at hn ⊢
 have HNN := xh hn
 clear hA hg hn hl
 obtain ⟨X, HX⟩ : ∃ X, Hid (getK0 (bs.map (·.k)) ai = X) := ⟨_, xh rfl⟩
 obtain ⟨Y, HY⟩ : ∃ Y, Hid (getK0 (bs.map (·.k)) ap = Y) := ⟨_, xh rfl⟩
 rw [HX.out, HY.out]
 obtain ⟨R, HRR⟩ : ∃ R, Hid (fndZ X Y.removed ap an = R) := ⟨_, xh rfl⟩
 rw [HRR.out]
 obtain ⟨g, hgg⟩ : ∃ g, g = w.heap.size := ⟨_, rfl⟩
 have HR1 := xh (yy62 w 46 (.int .i64 ak) (.int .i64 ai) (.int .i64 ap) (.string (bstr an)) (.bool ad) (.slice aA ao.length aC))
 have HB1 : Hid (Below w.heap.size w (w.alloc (.cells #[.int .i64 ak, .int .i64 ai, .int .i64 ap, .string (bstr an), .bool ad, .slice aA ao.length aC] 46))) := xh ((Below.refl _ _).alloc (Nat.le_refl _) _)
 rw [← hgg] at HR1 HB1 GG
 have HG := xh hgg
 clear hgg
 obtain ⟨W0, HW0⟩ : ∃ x, Hid (w.alloc (.cells #[.int .i64 ak, .int .i64 ai, .int .i64 ap, .string (bstr an), .bool ad, .slice aA ao.length aC] 46) = x) := ⟨_, xh rfl⟩
 rw [HW0.out] at HR1 HB1
 rw [← HG.out]
 go_enter Tryd.func43, Tryd.ntmps43
 go_upto_region 1 with fail
 rw [← HG.out, HW0.out]
 clear HW0
 obtain ⟨y0, y1, y2, y3, y4, y5⟩ := yy11 HR1.out
 go_wp2_with fail
 refine (GG.out _ _ HB1.out).mono ?_
 rintro e v ⟨hr, hb⟩
 obtain ⟨x, b, rfl, -, hxg, hxk⟩ := yy337 hr
 rw [HX.out] at hxk
 subst hxk
 have HXG := xh hxg
 clear hr hxg
 replace HR1 := xh (HR1.out.of_block (hb.block _ HR1.out.lt))
 have hgv : g ≤ v.heap.size := Nat.le_trans (by rw [HG.out]; exact HB1.out.size) hb.size
 replace HB1 : Hid (Below g w v) := xh (HB1.out.trans (hb.mono (by rw [HG.out]; exact HB1.out.size)))
 clear y0 y1 y2 y3 y4 y5 hb HX
 obtain ⟨⟨xi, xo, xe, xr, xc, xm, xp, xn⟩, xA, xC⟩ := x
 unfold yy8
 simp only at HXG ⊢
 have HR2 := xh (yy32 v 48 (.int .i64 xi) (.slice xA xo.length xC) (.bool xe) (.bool xr) (.bool xc) (.bool xm) (.int .i64 xp) (.string (bstr xn)))
 have HR1' := xh (HR1.out.alloc (Obj.cells #[.int .i64 xi, .slice xA xo.length xC, .bool xe, .bool xr, .bool xc, .bool xm, .int .i64 xp, .string (bstr xn)] 48))
 have HB1' : Hid (Below g w (v.alloc (.cells #[.int .i64 xi, .slice xA xo.length xC, .bool xe, .bool xr, .bool xc, .bool xm, .int .i64 xp, .string (bstr xn)] 48))) := xh (HB1.out.alloc hgv _)
 obtain ⟨gx, hgx⟩ : ∃ gx, gx = v.heap.size := ⟨_, rfl⟩
 obtain ⟨V1, HV1⟩ : ∃ x, Hid (v.alloc (.cells #[.int .i64 xi, .slice xA xo.length xC, .bool xe, .bool xr, .bool xc, .bool xm, .int .i64 xp, .string (bstr xn)] 48) = x) := ⟨_, xh rfl⟩
 rw [HV1.out] at HR2 HR1' HB1'
 rw [← hgx] at HR2 hgv
 have HGX := xh hgx
 have HGV := xh hgv
 have hne : g ≠ gx := by have := HR1.out.lt; omega
 have HNE := xh hne
 clear HR1 HB1 hgx hgv hne
 go_upto_region 2 with fail
 rw [← HGX.out, HV1.out]
 clear HV1
 obtain ⟨y0, y1, y2, y3, y4, y5⟩ := yy11 HR1'.out
 go_wp2_with fail
 refine (GG.out _ _ HB1'.out).mono ?_
 rintro e v2 ⟨hr, hb⟩
 obtain ⟨z, b2, rfl, -, -, hzk⟩ := yy337 hr
 rw [HY.out] at hzk
 subst hzk
 have HR1 := xh (HR1'.out.of_block (hb.block _ HR1'.out.lt))
 replace HR2 := xh (HR2.out.of_block (hb.block _ HR2.out.lt))
 have hgv : g ≤ v2.heap.size := Nat.le_trans (by rw [HG.out]; exact HB1'.out.size) hb.size
 have HB1 : Hid (Below g w v2) := xh (HB1'.out.trans (hb.mono (by rw [HG.out]; exact HB1'.out.size)))
 clear y0 y1 y2 y3 y4 y5 hb hr HY HR1' HB1' HGV
 obtain ⟨⟨zi, zo, ze, zr, zc, zm, zp, zn⟩, zA, zC⟩ := z
 unfold yy8
 simp only
 have HR3 := xh (yy32 v2 48 (.int .i64 zi) (.slice zA zo.length zC) (.bool ze) (.bool zr) (.bool zc) (.bool zm) (.int .i64 zp) (.string (bstr zn)))
 replace HR1 := xh (HR1.out.alloc (Obj.cells #[.int .i64 zi, .slice zA zo.length zC, .bool ze, .bool zr, .bool zc, .bool zm, .int .i64 zp, .string (bstr zn)] 48))
 replace HR2 := xh (HR2.out.alloc (Obj.cells #[.int .i64 zi, .slice zA zo.length zC, .bool ze, .bool zr, .bool zc, .bool zm, .int .i64 zp, .string (bstr zn)] 48))
 replace HB1 : Hid (Below g w (v2.alloc (.cells #[.int .i64 zi, .slice zA zo.length zC, .bool ze, .bool zr, .bool zc, .bool zm, .int .i64 zp, .string (bstr zn)] 48))) := xh (HB1.out.alloc hgv _)
 obtain ⟨gy, hgy⟩ : ∃ gy, gy = v2.heap.size := ⟨_, rfl⟩
 obtain ⟨V2, HV2⟩ : ∃ x, Hid (v2.alloc (.cells #[.int .i64 zi, .slice zA zo.length zC, .bool ze, .bool zr, .bool zc, .bool zm, .int .i64 zp, .string (bstr zn)] 48) = x) := ⟨_, xh rfl⟩
 rw [HV2.out] at HR1 HR2 HR3 HB1
 rw [← hgy] at HR3
 have HGY := xh hgy
 clear hgy hgv
 go_upto_region 3 with fail
 rw [← HGY.out, HV2.out]
 clear HV2 HGY HGX
 obtain ⟨bl, HBL⟩ : ∃ b : Bool, Hid ((decide (xp ≠ ap) || !decide (xn = an)) = b) := ⟨_, xh rfl⟩
 go_cut [9] from 24 to 35 (fun s9 wc => s9 = .bool bl ∧ wc = V2)
 case first =>
  obtain ⟨y0, y1, y2, y3, y4, y5⟩ := yy11 HR1.out
  obtain ⟨x0, x1, x2, x3, x4, x5, x6, x7⟩ := yy10 HR2.out
  clear y0 y1 y4 y5 x0 x1 x2 x3 x4 x5
  by_cases hp : xp = ap
  ·subst hp
   by_cases hnm : xn = an
   ·subst hnm
    have HE : Hid (bl = false) := xh (by rw [← HBL.out]; simp)
    go_wp2
    go_meet
    case rel => exact ⟨by rw [HE.out], rfl⟩
   ·have g1 : ((bstr xn).toList == (bstr an).toList) = false := bstr_neq fun h => hnm (bstr_inj _ _ HXG.out.2.2.1.1 HNN.out.1 h)
    have HE : Hid (bl = true) := xh (by rw [← HBL.out]; simp [hnm])
    clear hnm
    go_wp2
    go_meet
    case rel => exact ⟨by rw [HE.out], rfl⟩
  ·have g1 : (xp == ap) = false := beq_eq_false_iff_ne.2 hp
   have g2 : (xp != ap) = true := by simpa using hp
   have HE : Hid (bl = true) := xh (by rw [← HBL.out]; simp [hp])
   clear hp
   go_wp2
   go_meet
   case rel => exact ⟨by rw [HE.out], rfl⟩
 case rest =>
  obtain ⟨rfl, rfl⟩ := hcut
  obtain ⟨x0, x1, x2, x3, x4, x5, x6, x7⟩ := yy10 HR2.out
  obtain ⟨-, -, -, z3, -⟩ := yy10 HR3.out
  have HX2 := xh x2
  have HX3 := xh x3
  have HX4 := xh x4
  have HX5 := xh x5
  have HZ3 := xh z3
  clear x0 x1 x2 x3 x4 x5 x6 x7 z3 HR1 HR2 HR3
  cases xm with
  | true =>
   have HF : Hid (fndZ ⟨xi, xo, xe, xr, xc, true, xp, xn⟩ zr ap an = orZ xe xr xc true bl zr) := xh (by unfold fndZ elseB; rw [← HBL.out]; rfl)
   go_upto_region 4 with fail
   refine wp_region_lit sc0 (by kernel_rfl) (by kernel_rfl) (fun _ _ d _ _ h => by cases d <;> exact h) ?_
   simp only [picked, sc0, xmc, xmn, xgs, xgz, xgd]
   replace HB1 := xh (HB1.out.drew)
   have q2 := fun e : Ext wc.drew => Ext.cell (w := wc.drew) HX2.out e
   have q3 := fun e : Ext wc.drew => Ext.cell (w := wc.drew) HX3.out e
   have q4 := fun e : Ext wc.drew => Ext.cell (w := wc.drew) HX4.out e
   have q5 := fun e : Ext wc.drew => Ext.cell (w := wc.drew) HX5.out e
   have q9 := fun e : Ext wc.drew => Ext.cell (w := wc.drew) HZ3.out e
   generalize wc.drew = wd at HB1 q2 q3 q4 q5 q9
   repeat (first | (refine yy3 (by rfl) (fun K hK => ?_); go_big_quiet_op; refine hK _ ?_; clear hK K) | (refine yy5 (by rfl) ?_; simp only [Act.put, xsa, xsz, xss]))
   clear q2 q3 q4 q5 q9
   refine yy16 (by rfl) (fun K hK => ?_)
   go_simp
   refine (GB.out _ _ _).mono ?_
   rintro e u1 ⟨rfl, hb⟩
   replace HB1 := xh (HB1.out.trans (hb.mono (by rw [HG.out]; exact HB1.out.size)))
   refine hK _ _ hb ?_
   clear hK K hb
   repeat (first | (refine yy3 (by rfl) (fun K hK => ?_); go_big_quiet_op; refine hK _ ?_; clear hK K) | (refine yy5 (by rfl) ?_; simp only [Act.put, xsa, xsz, xss]))
   refine yy16 (by rfl) (fun K hK => ?_)
   go_simp
   refine (GB.out _ _ _).mono ?_
   rintro e u2 ⟨rfl, hb⟩
   replace HB1 := xh (HB1.out.trans (hb.mono (by rw [HG.out]; exact HB1.out.size)))
   refine hK _ _ hb ?_
   clear hK K hb
   repeat (first | (refine yy3 (by rfl) (fun K hK => ?_); go_big_quiet_op; refine hK _ ?_; clear hK K) | (refine yy5 (by rfl) ?_; simp only [Act.put, xsa, xsz, xss]))
   refine yy16 (by rfl) (fun K hK => ?_)
   go_simp
   refine (GB.out _ _ _).mono ?_
   rintro e u3 ⟨rfl, hb⟩
   replace HB1 := xh (HB1.out.trans (hb.mono (by rw [HG.out]; exact HB1.out.size)))
   refine hK _ _ hb ?_
   clear hK K hb
   repeat (first | (refine yy3 (by rfl) (fun K hK => ?_); go_big_quiet_op; refine hK _ ?_; clear hK K) | (refine yy5 (by rfl) ?_; simp only [Act.put, xsa, xsz, xss]))
   refine yy16 (by rfl) (fun K hK => ?_)
   go_simp
   refine (GB.out _ _ _).mono ?_
   rintro e u4 ⟨rfl, hb⟩
   replace HB1 := xh (HB1.out.trans (hb.mono (by rw [HG.out]; exact HB1.out.size)))
   refine hK _ _ hb ?_
   clear hK K hb
   repeat (first | (refine yy3 (by rfl) (fun K hK => ?_); go_big_quiet_op; refine hK _ ?_; clear hK K) | (refine yy5 (by rfl) ?_; simp only [Act.put, xsa, xsz, xss]))
   refine yy16 (by rfl) (fun K hK => ?_)
   go_simp
   refine (GB.out _ _ _).mono ?_
   rintro e u5 ⟨rfl, hb⟩
   replace HB1 := xh (HB1.out.trans (hb.mono (by rw [HG.out]; exact HB1.out.size)))
   refine hK _ _ hb ?_
   clear hK K hb
   repeat (first | (refine yy3 (by rfl) (fun K hK => ?_); go_big_quiet_op; refine hK _ ?_; clear hK K) | (refine yy5 (by rfl) ?_; simp only [Act.put, xsa, xsz, xss]))
   refine yy16 (by rfl) (fun K hK => ?_)
   go_simp
   refine (GB.out _ _ _).mono ?_
   rintro e u6 ⟨rfl, hb⟩
   replace HB1 := xh (HB1.out.trans (hb.mono (by rw [HG.out]; exact HB1.out.size)))
   refine hK _ _ hb ?_
   clear hK K hb
   repeat (first | (refine yy3 (by rfl) (fun K hK => ?_); go_big_quiet_op; refine hK _ ?_; clear hK K) | (refine yy5 (by rfl) ?_; simp only [Act.put, xsa, xsz, xss]))
   refine yy39 ?_
   go_wp2
   go_ret
   exact ⟨by rw [← HRR.out, HF.out]; rfl, HB1.out⟩
  | false =>
   have HF : Hid (fndZ ⟨xi, xo, xe, xr, xc, false, xp, xn⟩ zr ap an = orZ xe xr xc false false zr) := xh (by unfold fndZ elseB; rfl)
   go_upto_region 4 with fail
   refine wp_region_lit sc0 (by kernel_rfl) (by kernel_rfl) (fun _ _ d _ _ h => by cases d <;> exact h) ?_
   simp only [picked, sc0, xmc, xmn, xgs, xgz, xgd]
   replace HB1 := xh (HB1.out.drew)
   have q2 := fun e : Ext wc.drew => Ext.cell (w := wc.drew) HX2.out e
   have q3 := fun e : Ext wc.drew => Ext.cell (w := wc.drew) HX3.out e
   have q4 := fun e : Ext wc.drew => Ext.cell (w := wc.drew) HX4.out e
   have q5 := fun e : Ext wc.drew => Ext.cell (w := wc.drew) HX5.out e
   have q9 := fun e : Ext wc.drew => Ext.cell (w := wc.drew) HZ3.out e
   generalize wc.drew = wd at HB1 q2 q3 q4 q5 q9
   repeat (first | (refine yy3 (by rfl) (fun K hK => ?_); go_big_quiet_op; refine hK _ ?_; clear hK K) | (refine yy5 (by rfl) ?_; simp only [Act.put, xsa, xsz, xss]))
   clear q2 q3 q4 q5 q9
   refine yy16 (by rfl) (fun K hK => ?_)
   go_simp
   refine (GB.out _ _ _).mono ?_
   rintro e u1 ⟨rfl, hb⟩
   replace HB1 := xh (HB1.out.trans (hb.mono (by rw [HG.out]; exact HB1.out.size)))
   refine hK _ _ hb ?_
   clear hK K hb
   repeat (first | (refine yy3 (by rfl) (fun K hK => ?_); go_big_quiet_op; refine hK _ ?_; clear hK K) | (refine yy5 (by rfl) ?_; simp only [Act.put, xsa, xsz, xss]))
   refine yy16 (by rfl) (fun K hK => ?_)
   go_simp
   refine (GB.out _ _ _).mono ?_
   rintro e u2 ⟨rfl, hb⟩
   replace HB1 := xh (HB1.out.trans (hb.mono (by rw [HG.out]; exact HB1.out.size)))
   refine hK _ _ hb ?_
   clear hK K hb
   repeat (first | (refine yy3 (by rfl) (fun K hK => ?_); go_big_quiet_op; refine hK _ ?_; clear hK K) | (refine yy5 (by rfl) ?_; simp only [Act.put, xsa, xsz, xss]))
   refine yy16 (by rfl) (fun K hK => ?_)
   go_simp
   refine (GB.out _ _ _).mono ?_
   rintro e u3 ⟨rfl, hb⟩
   replace HB1 := xh (HB1.out.trans (hb.mono (by rw [HG.out]; exact HB1.out.size)))
   refine hK _ _ hb ?_
   clear hK K hb
   repeat (first | (refine yy3 (by rfl) (fun K hK => ?_); go_big_quiet_op; refine hK _ ?_; clear hK K) | (refine yy5 (by rfl) ?_; simp only [Act.put, xsa, xsz, xss]))
   refine yy16 (by rfl) (fun K hK => ?_)
   go_simp
   refine (GB.out _ _ _).mono ?_
   rintro e u4 ⟨rfl, hb⟩
   replace HB1 := xh (HB1.out.trans (hb.mono (by rw [HG.out]; exact HB1.out.size)))
   refine hK _ _ hb ?_
   clear hK K hb
   repeat (first | (refine yy3 (by rfl) (fun K hK => ?_); go_big_quiet_op; refine hK _ ?_; clear hK K) | (refine yy5 (by rfl) ?_; simp only [Act.put, xsa, xsz, xss]))
   refine yy16 (by rfl) (fun K hK => ?_)
   go_simp
   refine (GB.out _ _ _).mono ?_
   rintro e u5 ⟨rfl, hb⟩
   replace HB1 := xh (HB1.out.trans (hb.mono (by rw [HG.out]; exact HB1.out.size)))
   refine hK _ _ hb ?_
   clear hK K hb
   repeat (first | (refine yy3 (by rfl) (fun K hK => ?_); go_big_quiet_op; refine hK _ ?_; clear hK K) | (refine yy5 (by rfl) ?_; simp only [Act.put, xsa, xsz, xss]))
   refine yy16 (by rfl) (fun K hK => ?_)
   go_simp
   refine (GB.out _ _ _).mono ?_
   rintro e u6 ⟨rfl, hb⟩
   replace HB1 := xh (HB1.out.trans (hb.mono (by rw [HG.out]; exact HB1.out.size)))
   refine hK _ _ hb ?_
   clear hK K hb
   repeat (first | (refine yy3 (by rfl) (fun K hK => ?_); go_big_quiet_op; refine hK _ ?_; clear hK K) | (refine yy5 (by rfl) ?_; simp only [Act.put, xsa, xsz, xss]))
   refine yy39 ?_
   go_wp2
   go_ret
   exact ⟨by rw [← HRR.out, HF.out]; rfl, HB1.out⟩
theorem or_0 (e r c m l o : Bool) : bits .and .i64 (orZ e r c m l o) 0 = 0 := by cases e <;> cases r <;> cases c <;> cases m <;> cases l <;> cases o <;> rfl
theorem or_2 (e r c m l o : Bool) : bits .and .i64 (orZ e r c m l o) 2 = if r = true then 2 else 0 := by cases e <;> cases r <;> cases c <;> cases m <;> cases l <;> cases o <;> rfl
theorem or_4 (e r c m l o : Bool) : bits .and .i64 (orZ e r c m l o) 4 = if c = true then 4 else 0 := by cases e <;> cases r <;> cases c <;> cases m <;> cases l <;> cases o <;> rfl
theorem or_9 (e r c m l o : Bool) : bits .and .i64 (orZ e r c m l o) 9 = (if e = true then 1 else 0) + (if m = true then 8 else 0) := by cases e <;> cases r <;> cases c <;> cases m <;> cases l <;> cases o <;> rfl
theorem or_16 (e r c m l o : Bool) : bits .and .i64 (orZ e r c m l o) 16 = if l = true then 16 else 0 := by cases e <;> cases r <;> cases c <;> cases m <;> cases l <;> cases o <;> rfl
theorem or_32 (e r c m l o : Bool) : bits .and .i64 (orZ e r c m l o) 32 = if o = true then 32 else 0 := by cases e <;> cases r <;> cases c <;> cases m <;> cases l <;> cases o <;> rfl
def yy12 (ak : Int) (e r c m l o : Bool) : List (Bool × Int) := [(decide (ak = 4) && r, 12), (decide (ak = 2) && ((e || m) && !r), 13), (decide (ak = 3) && r, 12), (decide (ak = 3) && l, 13), (decide (ak = 1) && c, 13), (decide (ak = 1) && o, 12), (decide (ak = 3) && o, 12)]
def firstW : List (Bool × Int) → Int
 | [] => 0
 | x :: r => if x.1 = true then x.2 else firstW r
theorem yy512 (a : ActV) (ks : List OneK) : rWhy a ks = firstW (yy12 a.kind (getK0 ks a.id).edited (getK0 ks a.id).removed (getK0 ks a.id).created (getK0 ks a.id).moved (elseB (getK0 ks a.id) a.parent a.name) (getK0 ks a.parent).removed) := by
 unfold rWhy elseB yy12
 generalize getK0 ks a.id = x
 generalize (getK0 ks a.parent).removed = o
 obtain ⟨xi, xo, xe, xr, xc, xm, xp, xn⟩ := x
 by_cases k4 : a.kind = 4
 ·cases xr <;> simp [k4, firstW]
 by_cases k2 : a.kind = 2
 ·cases xr <;> cases xe <;> cases xm <;> simp [k2, firstW]
 by_cases k3 : a.kind = 3
 ·by_cases hp : xp = a.parent
  ·by_cases hn : xn = a.name
   ·cases xr <;> cases xm <;> cases o <;> simp [k3, firstW, hp, hn]
   ·cases xr <;> cases xm <;> cases o <;> simp [k3, firstW, hp, hn]
  ·cases xr <;> cases xm <;> cases o <;> simp [k3, firstW, hp]
 by_cases k1 : a.kind = 1
 ·cases xc <;> cases o <;> simp [k1, firstW]
 ·simp [k4, k2, k3, k1, firstW]
set_option maxRecDepth 100000 in
theorem yy428 (w : World) : (Instr.index 92 (.agg confC) (.int .i64 0)).run Tryd.prog w = .ok (.agg #[.int .i64 4, .int .i64 2, .int .i64 0, .int .i64 12]) w := by
 simp [Instr.index, asIntOf, Sem.run_bind, run_underlying Tryd.underlying92, part, isAgg, run_underlying Tryd.underlying91, confC]
set_option maxRecDepth 100000 in
theorem yy429 (w : World) : (Instr.index 92 (.agg confC) (.int .i64 1)).run Tryd.prog w = .ok (.agg #[.int .i64 2, .int .i64 9, .int .i64 2, .int .i64 13]) w := by
 simp [Instr.index, asIntOf, Sem.run_bind, run_underlying Tryd.underlying92, part, isAgg, run_underlying Tryd.underlying91, confC]
set_option maxRecDepth 100000 in
theorem yy430 (w : World) : (Instr.index 92 (.agg confC) (.int .i64 2)).run Tryd.prog w = .ok (.agg #[.int .i64 3, .int .i64 2, .int .i64 0, .int .i64 12]) w := by
 simp [Instr.index, asIntOf, Sem.run_bind, run_underlying Tryd.underlying92, part, isAgg, run_underlying Tryd.underlying91, confC]
set_option maxRecDepth 100000 in
theorem yy431 (w : World) : (Instr.index 92 (.agg confC) (.int .i64 3)).run Tryd.prog w = .ok (.agg #[.int .i64 3, .int .i64 16, .int .i64 0, .int .i64 13]) w := by
 simp [Instr.index, asIntOf, Sem.run_bind, run_underlying Tryd.underlying92, part, isAgg, run_underlying Tryd.underlying91, confC]
set_option maxRecDepth 100000 in
theorem yy432 (w : World) : (Instr.index 92 (.agg confC) (.int .i64 4)).run Tryd.prog w = .ok (.agg #[.int .i64 1, .int .i64 4, .int .i64 0, .int .i64 13]) w := by
 simp [Instr.index, asIntOf, Sem.run_bind, run_underlying Tryd.underlying92, part, isAgg, run_underlying Tryd.underlying91, confC]
set_option maxRecDepth 100000 in
theorem yy433 (w : World) : (Instr.index 92 (.agg confC) (.int .i64 5)).run Tryd.prog w = .ok (.agg #[.int .i64 1, .int .i64 32, .int .i64 0, .int .i64 12]) w := by
 simp [Instr.index, asIntOf, Sem.run_bind, run_underlying Tryd.underlying92, part, isAgg, run_underlying Tryd.underlying91, confC]
set_option maxRecDepth 100000 in
theorem yy434 (w : World) : (Instr.index 92 (.agg confC) (.int .i64 6)).run Tryd.prog w = .ok (.agg #[.int .i64 3, .int .i64 32, .int .i64 0, .int .i64 12]) w := by
 simp [Instr.index, asIntOf, Sem.run_bind, run_underlying Tryd.underlying92, part, isAgg, run_underlying Tryd.underlying91, confC]
set_option maxHeartbeats 8000000 in
set_option maxRecDepth 100000 in
theorem yy634 (A : Option Addr) (c : Nat) (bs : List OneV) (a : ActV) (hl : bs.length ≤ 1048576) (hg : ∀ y ∈ bs, y.Good ∧ KeyH y.k) (hn : Bytes a.name) (w : World) (hA : OnesAt w A bs) (hC : ConfAt w) :
  Calls Tryd.prog 22 #[.agg (yy0 a).toArray, .slice A bs.length c] w fun e w' => e = .returned (.int .i64 (rWhy a (bs.map (·.k)))) ∧ Below w.heap.size w w' := by
 have GF := xh (fun v (h : Below w.heap.size w v) => yy581 A c bs a hl hg hn v (OnesAt.below hA h))
 rw [yy512]
 have HC := xh hC
 clear hA hg hn hl hC
 obtain ⟨ak, ai, ap, an, ad, aA, aC, ao⟩ := a
 unfold yy0 fndZ at GF
 unfold yy0
 simp only at GF ⊢
 generalize elseB (getK0 (bs.map (·.k)) ai) ap an = bl at GF ⊢
 generalize (getK0 (bs.map (·.k)) ap).removed = bo at GF ⊢
 generalize (getK0 (bs.map (·.k)) ai).edited = be at GF ⊢
 generalize (getK0 (bs.map (·.k)) ai).removed = br at GF ⊢
 generalize (getK0 (bs.map (·.k)) ai).created = bc at GF ⊢
 generalize (getK0 (bs.map (·.k)) ai).moved = bm at GF ⊢
 have K0 := xh (or_0 be br bc bm bl bo)
 have K2 := xh (or_2 be br bc bm bl bo)
 have K4 := xh (or_4 be br bc bm bl bo)
 have K9 := xh (or_9 be br bc bm bl bo)
 have K16 := xh (or_16 be br bc bm bl bo)
 have K32 := xh (or_32 be br bc bm bl bo)
 generalize orZ be br bc bm bl bo = F at GF K0 K2 K4 K9 K16 K32
 obtain ⟨R, HR0⟩ : ∃ R, Hid (firstW (yy12 ak be br bc bm bl bo) = R) := ⟨_, xh rfl⟩
 rw [HR0.out]
 obtain ⟨g, hgg⟩ : ∃ g, g = w.heap.size := ⟨_, rfl⟩
 have HR1 := xh (yy62 w 46 (.int .i64 ak) (.int .i64 ai) (.int .i64 ap) (.string (bstr an)) (.bool ad) (.slice aA ao.length aC))
 have HB1 : Hid (Below w.heap.size w (w.alloc (.cells #[.int .i64 ak, .int .i64 ai, .int .i64 ap, .string (bstr an), .bool ad, .slice aA ao.length aC] 46))) := xh ((Below.refl _ _).alloc (Nat.le_refl _) _)
 rw [← hgg] at HR1 HB1 GF
 have HG := xh hgg
 clear hgg
 obtain ⟨W0, HW0⟩ : ∃ x, Hid (w.alloc (.cells #[.int .i64 ak, .int .i64 ai, .int .i64 ap, .string (bstr an), .bool ad, .slice aA ao.length aC] 46) = x) := ⟨_, xh rfl⟩
 rw [HW0.out] at HR1 HB1
 rw [← HG.out]
 go_enter Tryd.func22, Tryd.ntmps22
 go_upto_region 1 with fail
 rw [← HG.out, HW0.out]
 clear HW0
 obtain ⟨y0, y1, y2, y3, y4, y5⟩ := yy11 HR1.out
 go_wp2_with fail
 refine (GF.out _ HB1.out).mono ?_
 rintro e v ⟨rfl, hb⟩
 replace HR1 := xh (HR1.out.of_block (hb.block _ HR1.out.lt))
 replace HB1 : Hid (Below g w v) := xh (HB1.out.trans (hb.mono (by rw [HG.out]; exact HB1.out.size)))
 replace HC : Hid (ConfAt v) := xh (HC.out.below (by rw [← HG.out]; exact HB1.out))
 clear y0 y1 y2 y3 y4 y5 hb GF
 obtain ⟨tc, fc, hcr⟩ := HC.out
 go_wp2_with (refine wpList_load_row rfl 92 (.global 0) rfl 0 rfl tc confC fc _ hcr Tryd.underlying92 rfl (by kernel_rfl) ?_)
 clear hcr
 go_loopw [12] (fun i wr => ∃ k : Nat, k ≤ 7 ∧ i = .int .i64 k ∧ Hid (firstW ((yy12 ak be br bc bm bl bo).drop k) = R) ∧ Hid (World.rowIs wr g 46 6 (sixV (.int .i64 ak) (.int .i64 ai) (.int .i64 ap) (.string (bstr an)) (.bool ad) (.slice aA ao.length aC))) ∧ Hid (Below g w wr)) (fun i _ => 7 - (intOf i).toNat)
 case atStart => exact ⟨0, by omega, rfl, HR0, HR1, HB1⟩
 case round =>
  clear HR0 HR1 HB1
  obtain ⟨k, hk, rfl, HR0, HR1, HB1⟩ := hrel
  have hgz : g ≤ wr.heap.size := Nat.le_of_lt HR1.out.lt
  by_cases hlt : k < 7
  ·rcases (show k = 0 ∨ k = 1 ∨ k = 2 ∨ k = 3 ∨ k = 4 ∨ k = 5 ∨ k = 6 by omega) with rfl | rfl | rfl | rfl | rfl | rfl | rfl
   ·have hix := fun w => yy428 w
    have HRN := xh (HR1.out.alloc (Obj.cells #[.int .i64 4, .int .i64 2, .int .i64 0, .int .i64 12] 91))
    have HBN := xh (HB1.out.alloc hgz (Obj.cells #[.int .i64 4, .int .i64 2, .int .i64 0, .int .i64 12] 91))
    obtain ⟨y0, y1, y2, y3, y4, y5⟩ := yy11 HRN.out
    clear y1 y2 y3 y4 y5
    by_cases hak : ak = 4
    ·obtain rfl : ak = 4 := hak
     have m1 := K2.out
     have m2 := K0.out
     cases br with
     | true =>
      have m1' : bits .and .i64 F 2 = 2 := by rw [m1]; rfl
      clear m1
      obtain rfl : R = 12 := by rw [← HR0.out]; simp [yy12, firstW]
      clear HR0
      go_wp2
      go_ret
      exact ⟨rfl, HBN.out⟩
     | false =>
      have m1' : bits .and .i64 F 2 = 0 := by rw [m1]; rfl
      clear m1
      have HN : Hid (firstW ((yy12 4 be false bc bm bl bo).drop 1) = R) := xh (by rw [← HR0.out]; simp [yy12, firstW])
      clear HR0
      go_wp2
      go_roundw
      case rel => exact ⟨1, by omega, by go_num, HN, HRN, HBN⟩
      case measure => simp [intOf]
    ·have g1 : ((4 : Int) == ak) = false := beq_eq_false_iff_ne.2 (fun e => hak e.symm)
     have HAK := xh hak
     clear hak
     have HN : Hid (firstW ((yy12 ak be br bc bm bl bo).drop 1) = R) := xh (by rw [← HR0.out]; simp [yy12, firstW, HAK.out])
     clear HR0
     go_wp2
     go_roundw
     case rel => exact ⟨1, by omega, by go_num, HN, HRN, HBN⟩
     case measure => simp [intOf]
   ·have hix := fun w => yy429 w
    have HRN := xh (HR1.out.alloc (Obj.cells #[.int .i64 2, .int .i64 9, .int .i64 2, .int .i64 13] 91))
    have HBN := xh (HB1.out.alloc hgz (Obj.cells #[.int .i64 2, .int .i64 9, .int .i64 2, .int .i64 13] 91))
    obtain ⟨y0, y1, y2, y3, y4, y5⟩ := yy11 HRN.out
    clear y1 y2 y3 y4 y5
    by_cases hak : ak = 2
    ·obtain rfl : ak = 2 := hak
     have m1 := K9.out
     have m2 := K2.out
     cases be with
     | true =>
      cases bm with
      | true =>
       have m1' : bits .and .i64 F 9 = 9 := by rw [m1]; rfl
       clear m1
       cases br with
       | true =>
        have m2' : bits .and .i64 F 2 = 2 := by rw [m2]; rfl
        clear m2
        have HN : Hid (firstW ((yy12 2 true true bc true bl bo).drop 2) = R) := xh (by rw [← HR0.out]; simp [yy12, firstW])
        clear HR0
        go_wp2
        go_roundw
        case rel => exact ⟨2, by omega, by go_num, HN, HRN, HBN⟩
        case measure => simp [intOf]
       | false =>
        have m2' : bits .and .i64 F 2 = 0 := by rw [m2]; rfl
        clear m2
        obtain rfl : R = 13 := by rw [← HR0.out]; simp [yy12, firstW]
        clear HR0
        go_wp2
        go_ret
        exact ⟨rfl, HBN.out⟩
      | false =>
       have m1' : bits .and .i64 F 9 = 1 := by rw [m1]; rfl
       clear m1
       cases br with
       | true =>
        have m2' : bits .and .i64 F 2 = 2 := by rw [m2]; rfl
        clear m2
        have HN : Hid (firstW ((yy12 2 true true bc false bl bo).drop 2) = R) := xh (by rw [← HR0.out]; simp [yy12, firstW])
        clear HR0
        go_wp2
        go_roundw
        case rel => exact ⟨2, by omega, by go_num, HN, HRN, HBN⟩
        case measure => simp [intOf]
       | false =>
        have m2' : bits .and .i64 F 2 = 0 := by rw [m2]; rfl
        clear m2
        obtain rfl : R = 13 := by rw [← HR0.out]; simp [yy12, firstW]
        clear HR0
        go_wp2
        go_ret
        exact ⟨rfl, HBN.out⟩
     | false =>
      cases bm with
      | true =>
       have m1' : bits .and .i64 F 9 = 8 := by rw [m1]; rfl
       clear m1
       cases br with
       | true =>
        have m2' : bits .and .i64 F 2 = 2 := by rw [m2]; rfl
        clear m2
        have HN : Hid (firstW ((yy12 2 false true bc true bl bo).drop 2) = R) := xh (by rw [← HR0.out]; simp [yy12, firstW])
        clear HR0
        go_wp2
        go_roundw
        case rel => exact ⟨2, by omega, by go_num, HN, HRN, HBN⟩
        case measure => simp [intOf]
       | false =>
        have m2' : bits .and .i64 F 2 = 0 := by rw [m2]; rfl
        clear m2
        obtain rfl : R = 13 := by rw [← HR0.out]; simp [yy12, firstW]
        clear HR0
        go_wp2
        go_ret
        exact ⟨rfl, HBN.out⟩
      | false =>
       have m1' : bits .and .i64 F 9 = 0 := by rw [m1]; rfl
       clear m1
       have HN : Hid (firstW ((yy12 2 false br bc false bl bo).drop 2) = R) := xh (by rw [← HR0.out]; simp [yy12, firstW])
       clear HR0
       go_wp2
       go_roundw
       case rel => exact ⟨2, by omega, by go_num, HN, HRN, HBN⟩
       case measure => simp [intOf]
    ·have g1 : ((2 : Int) == ak) = false := beq_eq_false_iff_ne.2 (fun e => hak e.symm)
     have HAK := xh hak
     clear hak
     have HN : Hid (firstW ((yy12 ak be br bc bm bl bo).drop 2) = R) := xh (by rw [← HR0.out]; simp [yy12, firstW, HAK.out])
     clear HR0
     go_wp2
     go_roundw
     case rel => exact ⟨2, by omega, by go_num, HN, HRN, HBN⟩
     case measure => simp [intOf]
   ·have hix := fun w => yy430 w
    have HRN := xh (HR1.out.alloc (Obj.cells #[.int .i64 3, .int .i64 2, .int .i64 0, .int .i64 12] 91))
    have HBN := xh (HB1.out.alloc hgz (Obj.cells #[.int .i64 3, .int .i64 2, .int .i64 0, .int .i64 12] 91))
    obtain ⟨y0, y1, y2, y3, y4, y5⟩ := yy11 HRN.out
    clear y1 y2 y3 y4 y5
    by_cases hak : ak = 3
    ·obtain rfl : ak = 3 := hak
     have m1 := K2.out
     have m2 := K0.out
     cases br with
     | true =>
      have m1' : bits .and .i64 F 2 = 2 := by rw [m1]; rfl
      clear m1
      obtain rfl : R = 12 := by rw [← HR0.out]; simp [yy12, firstW]
      clear HR0
      go_wp2
      go_ret
      exact ⟨rfl, HBN.out⟩
     | false =>
      have m1' : bits .and .i64 F 2 = 0 := by rw [m1]; rfl
      clear m1
      have HN : Hid (firstW ((yy12 3 be false bc bm bl bo).drop 3) = R) := xh (by rw [← HR0.out]; simp [yy12, firstW])
      clear HR0
      go_wp2
      go_roundw
      case rel => exact ⟨3, by omega, by go_num, HN, HRN, HBN⟩
      case measure => simp [intOf]
    ·have g1 : ((3 : Int) == ak) = false := beq_eq_false_iff_ne.2 (fun e => hak e.symm)
     have HAK := xh hak
     clear hak
     have HN : Hid (firstW ((yy12 ak be br bc bm bl bo).drop 3) = R) := xh (by rw [← HR0.out]; simp [yy12, firstW, HAK.out])
     clear HR0
     go_wp2
     go_roundw
     case rel => exact ⟨3, by omega, by go_num, HN, HRN, HBN⟩
     case measure => simp [intOf]
   ·have hix := fun w => yy431 w
    have HRN := xh (HR1.out.alloc (Obj.cells #[.int .i64 3, .int .i64 16, .int .i64 0, .int .i64 13] 91))
    have HBN := xh (HB1.out.alloc hgz (Obj.cells #[.int .i64 3, .int .i64 16, .int .i64 0, .int .i64 13] 91))
    obtain ⟨y0, y1, y2, y3, y4, y5⟩ := yy11 HRN.out
    clear y1 y2 y3 y4 y5
    by_cases hak : ak = 3
    ·obtain rfl : ak = 3 := hak
     have m1 := K16.out
     have m2 := K0.out
     cases bl with
     | true =>
      have m1' : bits .and .i64 F 16 = 16 := by rw [m1]; rfl
      clear m1
      obtain rfl : R = 13 := by rw [← HR0.out]; simp [yy12, firstW]
      clear HR0
      go_wp2
      go_ret
      exact ⟨rfl, HBN.out⟩
     | false =>
      have m1' : bits .and .i64 F 16 = 0 := by rw [m1]; rfl
      clear m1
      have HN : Hid (firstW ((yy12 3 be br bc bm false bo).drop 4) = R) := xh (by rw [← HR0.out]; simp [yy12, firstW])
      clear HR0
      go_wp2
      go_roundw
      case rel => exact ⟨4, by omega, by go_num, HN, HRN, HBN⟩
      case measure => simp [intOf]
    ·have g1 : ((3 : Int) == ak) = false := beq_eq_false_iff_ne.2 (fun e => hak e.symm)
     have HAK := xh hak
     clear hak
     have HN : Hid (firstW ((yy12 ak be br bc bm bl bo).drop 4) = R) := xh (by rw [← HR0.out]; simp [yy12, firstW, HAK.out])
     clear HR0
     go_wp2
     go_roundw
     case rel => exact ⟨4, by omega, by go_num, HN, HRN, HBN⟩
     case measure => simp [intOf]
   ·have hix := fun w => yy432 w
    have HRN := xh (HR1.out.alloc (Obj.cells #[.int .i64 1, .int .i64 4, .int .i64 0, .int .i64 13] 91))
    have HBN := xh (HB1.out.alloc hgz (Obj.cells #[.int .i64 1, .int .i64 4, .int .i64 0, .int .i64 13] 91))
    obtain ⟨y0, y1, y2, y3, y4, y5⟩ := yy11 HRN.out
    clear y1 y2 y3 y4 y5
    by_cases hak : ak = 1
    ·obtain rfl : ak = 1 := hak
     have m1 := K4.out
     have m2 := K0.out
     cases bc with
     | true =>
      have m1' : bits .and .i64 F 4 = 4 := by rw [m1]; rfl
      clear m1
      obtain rfl : R = 13 := by rw [← HR0.out]; simp [yy12, firstW]
      clear HR0
      go_wp2
      go_ret
      exact ⟨rfl, HBN.out⟩
     | false =>
      have m1' : bits .and .i64 F 4 = 0 := by rw [m1]; rfl
      clear m1
      have HN : Hid (firstW ((yy12 1 be br false bm bl bo).drop 5) = R) := xh (by rw [← HR0.out]; simp [yy12, firstW])
      clear HR0
      go_wp2
      go_roundw
      case rel => exact ⟨5, by omega, by go_num, HN, HRN, HBN⟩
      case measure => simp [intOf]
    ·have g1 : ((1 : Int) == ak) = false := beq_eq_false_iff_ne.2 (fun e => hak e.symm)
     have HAK := xh hak
     clear hak
     have HN : Hid (firstW ((yy12 ak be br bc bm bl bo).drop 5) = R) := xh (by rw [← HR0.out]; simp [yy12, firstW, HAK.out])
     clear HR0
     go_wp2
     go_roundw
     case rel => exact ⟨5, by omega, by go_num, HN, HRN, HBN⟩
     case measure => simp [intOf]
   ·have hix := fun w => yy433 w
    have HRN := xh (HR1.out.alloc (Obj.cells #[.int .i64 1, .int .i64 32, .int .i64 0, .int .i64 12] 91))
    have HBN := xh (HB1.out.alloc hgz (Obj.cells #[.int .i64 1, .int .i64 32, .int .i64 0, .int .i64 12] 91))
    obtain ⟨y0, y1, y2, y3, y4, y5⟩ := yy11 HRN.out
    clear y1 y2 y3 y4 y5
    by_cases hak : ak = 1
    ·obtain rfl : ak = 1 := hak
     have m1 := K32.out
     have m2 := K0.out
     cases bo with
     | true =>
      have m1' : bits .and .i64 F 32 = 32 := by rw [m1]; rfl
      clear m1
      obtain rfl : R = 12 := by rw [← HR0.out]; simp [yy12, firstW]
      clear HR0
      go_wp2
      go_ret
      exact ⟨rfl, HBN.out⟩
     | false =>
      have m1' : bits .and .i64 F 32 = 0 := by rw [m1]; rfl
      clear m1
      have HN : Hid (firstW ((yy12 1 be br bc bm bl false).drop 6) = R) := xh (by rw [← HR0.out]; simp [yy12, firstW])
      clear HR0
      go_wp2
      go_roundw
      case rel => exact ⟨6, by omega, by go_num, HN, HRN, HBN⟩
      case measure => simp [intOf]
    ·have g1 : ((1 : Int) == ak) = false := beq_eq_false_iff_ne.2 (fun e => hak e.symm)
     have HAK := xh hak
     clear hak
     have HN : Hid (firstW ((yy12 ak be br bc bm bl bo).drop 6) = R) := xh (by rw [← HR0.out]; simp [yy12, firstW, HAK.out])
     clear HR0
     go_wp2
     go_roundw
     case rel => exact ⟨6, by omega, by go_num, HN, HRN, HBN⟩
     case measure => simp [intOf]
   ·have hix := fun w => yy434 w
    have HRN := xh (HR1.out.alloc (Obj.cells #[.int .i64 3, .int .i64 32, .int .i64 0, .int .i64 12] 91))
    have HBN := xh (HB1.out.alloc hgz (Obj.cells #[.int .i64 3, .int .i64 32, .int .i64 0, .int .i64 12] 91))
    obtain ⟨y0, y1, y2, y3, y4, y5⟩ := yy11 HRN.out
    clear y1 y2 y3 y4 y5
    by_cases hak : ak = 3
    ·obtain rfl : ak = 3 := hak
     have m1 := K32.out
     have m2 := K0.out
     cases bo with
     | true =>
      have m1' : bits .and .i64 F 32 = 32 := by rw [m1]; rfl
      clear m1
      obtain rfl : R = 12 := by rw [← HR0.out]; simp [yy12, firstW]
      clear HR0
      go_wp2
      go_ret
      exact ⟨rfl, HBN.out⟩
     | false =>
      have m1' : bits .and .i64 F 32 = 0 := by rw [m1]; rfl
      clear m1
      have HN : Hid (firstW ((yy12 3 be br bc bm bl false).drop 7) = R) := xh (by rw [← HR0.out]; simp [yy12, firstW])
      clear HR0
      go_wp2
      go_roundw
      case rel => exact ⟨7, by omega, by go_num, HN, HRN, HBN⟩
      case measure => simp [intOf]
    ·have g1 : ((3 : Int) == ak) = false := beq_eq_false_iff_ne.2 (fun e => hak e.symm)
     have HAK := xh hak
     clear hak
     have HN : Hid (firstW ((yy12 ak be br bc bm bl bo).drop 7) = R) := xh (by rw [← HR0.out]; simp [yy12, firstW, HAK.out])
     clear HR0
     go_wp2
     go_roundw
     case rel => exact ⟨7, by omega, by go_num, HN, HRN, HBN⟩
     case measure => simp [intOf]
  ·obtain rfl : k = 7 := by omega
   have hF : R = 0 := by rw [← HR0.out]; rfl
   subst hF
   go_wp2
   go_ret
   exact ⟨rfl, HB1.out⟩
def doneB (k : Int) (y : OneK) : Bool := (decide (k = 2) && y.removed) || (decide (k = 3) && y.moved)
theorem yy435 (a : ActV) (ks : List OneK) : rbLeft a ks = doneB a.kind (getK0 ks a.id) := rfl
set_option maxHeartbeats 2000000 in
set_option maxRecDepth 100000 in
theorem yy687 (a : ActV) (y : OneV) (w : World) :
  Calls Tryd.prog 36 #[.agg (yy0 a).toArray, .agg (yy8 y).toArray] w fun e w' => e = .returned (.bool (doneB a.kind y.k)) ∧ Below w.heap.size w w' := by
 obtain ⟨ak, ai, ap, an, ad, aA, aC, ao⟩ := a
 obtain ⟨⟨xi, xo, xe, xr, xc, xm, xp, xn⟩, xA, xC⟩ := y
 obtain ⟨R, HR⟩ : ∃ R, Hid (doneB ak ⟨xi, xo, xe, xr, xc, xm, xp, xn⟩ = R) := ⟨_, xh rfl⟩
 simp only
 rw [HR.out]
 unfold yy0 yy8
 have HB : Hid (Below w.heap.size w ((w.alloc (.cells #[.int .i64 ak, .int .i64 ai, .int .i64 ap, .string (bstr an), .bool ad, .slice aA ao.length aC] 46)).alloc (.cells #[.int .i64 xi, .slice xA xo.length xC, .bool xe, .bool xr, .bool xc, .bool xm, .int .i64 xp, .string (bstr xn)] 48))) := xh (((Below.refl _ _).alloc (Nat.le_refl _) _).alloc (by simp) _)
 by_cases k2 : ak = 2
 ·obtain rfl : ak = 2 := k2
  cases xr with
  | true =>
   obtain rfl : R = true := by rw [← HR.out]; rfl
   go_enter Tryd.func36, Tryd.ntmps36
   go_wp2
   go_ret
   exact ⟨rfl, HB.out⟩
  | false =>
   obtain rfl : R = false := by rw [← HR.out]; rfl
   go_enter Tryd.func36, Tryd.ntmps36
   go_wp2
   go_ret
   exact ⟨rfl, HB.out⟩
 have d2 : (ak == 2) = false := beq_eq_false_iff_ne.2 k2
 by_cases k3 : ak = 3
 ·obtain rfl : ak = 3 := k3
  obtain rfl : R = xm := by rw [← HR.out]; simp [doneB]
  clear k2 d2
  go_enter Tryd.func36, Tryd.ntmps36
  go_wp2
  go_ret
  exact ⟨rfl, HB.out⟩
 have d3 : (ak == 3) = false := beq_eq_false_iff_ne.2 k3
 obtain rfl : R = false := by rw [← HR.out]; simp [doneB, k2, k3]
 clear k2 k3
 go_enter Tryd.func36, Tryd.ntmps36
 go_wp2
 go_ret
 exact ⟨rfl, HB.out⟩
def edB (id : Int) (y : ActV) : Bool := decide (y.kind = 4 ∧ y.id = id)
set_option maxRecDepth 100000 in
theorem yy437 (b : Nat) (id : Int) (y : ActV) (w : World) (hb : b < w.heap.size) (hc : w.cell? ⟨b, 0, none⟩ = some (.int .i64 id)) :
  Calls Tryd.prog 80 #[.agg (yy0 y).toArray, .pointer (some ⟨b, 0, none⟩)] w fun e w' => e = .returned (.bool (edB id y)) ∧ Below w.heap.size w w' := by
 have HB := xh hb
 obtain ⟨k, i, p, n, d, A, c, o⟩ := y
 unfold yy0 edB
 simp only
 have hc2 : (w.alloc (.cells #[.int .i64 k, .int .i64 i, .int .i64 p, .string (bstr n), .bool d, .slice A o.length c] 46)).cell? ⟨b, 0, none⟩ = some (.int .i64 id) := (((Below.refl w.heap.size w).alloc (Nat.le_refl _) _).cell (p := ⟨b, 0, none⟩) hb).trans hc
 clear hc hb
 by_cases h : k = 4
 ·subst h
  by_cases g : i = id
  ·subst g
   rw [decide_eq_true ⟨rfl, rfl⟩]
   go_enter Tryd.func80, Tryd.ntmps80
   go_wp2
   go_ret
   exact ⟨rfl, (Below.refl _ _).alloc (Nat.le_refl _) _⟩
  ·have e : (i == id) = false := xn g
   rw [decide_eq_false fun h => g h.2]
   clear g
   go_enter Tryd.func80, Tryd.ntmps80
   go_wp2
   go_ret
   exact ⟨rfl, (Below.refl _ _).alloc (Nat.le_refl _) _⟩
 ·have e : (k == 4) = false := xn h
  rw [decide_eq_false fun g => h g.1]
  clear h
  go_enter Tryd.func80, Tryd.ntmps80
  go_wp2
  go_ret
  exact ⟨rfl, (Below.refl _ _).alloc (Nat.le_refl _) _⟩
set_option maxHeartbeats 1000000 in
set_option maxRecDepth 100000 in
theorem yy171 (A : Option Addr) (c : Nat) (fv : Value) (w : World) :
  Calls Tryd.prog 79 #[.slice A 0 c, fv] w fun e w' => e = .returned (.bool false) ∧ w = w' := by
 have G : ∀ w, Calls Tryd.prog 94 #[.slice A 0 c, fv] w fun e w' => e = .returned (.int .i64 (-1)) ∧ w = w' := by
  intro w
  go_enter Tryd.func94, Tryd.ntmps94
  go_wp2
  go_loopw [5, 8] (fun s5 s8 wr => s5 = s5 ∧ s8 = .int .i64 0 ∧ wr = w) (fun _ _ _ => 0)
  case atStart => exact ⟨rfl, rfl, rfl⟩
  case round =>
   obtain ⟨_, rfl, rfl⟩ := hrel
   go_wp2
   go_ret
   exact ⟨rfl, rfl⟩
 have G2 := xh G
 clear G
 go_enter Tryd.func79, Tryd.ntmps79
 go_wp2_with fail
 refine (G2.out _).mono ?_
 rintro e w' ⟨rfl, rfl⟩
 go_wp2
 go_ret
 exact ⟨rfl, rfl⟩
theorem yy742 (w : World) : (isAgg 46).run Tryd.prog w = .ok true w := Tryd.isAgg46 w
theorem yy204 (A : Option Addr) (c : Nat) (m : List ActV) (b : Nat) (id : Int) (w : World) (hb : b < w.heap.size) (hc : w.cell? ⟨b, 0, none⟩ = some (.int .i64 id)) (hA : ActsAt w A m) (hml : m.length ≤ 1048576) :
  Calls Tryd.prog 79 #[.slice A m.length c, .func (.func 80) #[] #[.pointer (some ⟨b, 0, none⟩)]] w fun e w' => e = .returned (.bool (m.any (edB id))) ∧ Below w.heap.size w w' := by
 by_cases hm : m = []
 ·subst hm
  exact (yy171 A c _ w).mono fun e w' ⟨h1, h2⟩ => ⟨h1, by rw [← h2]; exact Below.refl _ _⟩
 ·obtain ⟨bl, off, rfl, hbl⟩ := hA.form (List.length_pos_iff.2 hm)
  have eg : ∀ args w, (callFunc 80 args).run Tryd.prog w = .ok (.enter 80 args) w := enters_of Tryd.func80 (by kernel_rfl) rfl
  have hcon := AnyQ.slices_ContainsFunc Tryd.containsActs 6 (fun w => yy742 w) (fun w => Tryd.sizeOf46 w) yy0 yy15 (edB id) 80 #[.pointer (some ⟨b, 0, none⟩)] eg bl off m.length c m w
   (fun W x hbW => (yy437 b id x W (Nat.lt_of_lt_of_le hb hbW.size) ((hbW.cell (p := ⟨b, 0, none⟩) hb).trans hc)).mono fun e w' ⟨h1, h2⟩ => ⟨h1, hbW.trans (h2.mono hbW.size)⟩)
   (Nat.le_refl _) (by omega) hbl (fun j hj i v hv => ?_)
  ·rw [List.take_length] at hcon
   exact hcon
  ·rw [List.getElem!_eq_getElem?_getD, List.getElem?_eq_getElem hj] at hv
   have := yy4.cell hA.1 (j := j * 6 + i) (v := v) (by
    have hi : i < 6 := by
     have := (List.getElem?_eq_some_iff.1 hv).1
     exact this
    rw [flat_get yy0 6 yy15 m j hj i hi]
    exact hv)
   rw [Nat.add_assoc]
   exact this
set_option maxRecDepth 100000 in
theorem yy516 (A : Option Addr) (c : Nat) (m : List ActV) (id : Int) (w : World) (hA : ActsAt w A m) (hml : m.length ≤ 1048576) :
  Calls Tryd.prog 54 #[.slice A m.length c, .int .i64 id] w fun e w' => e = .returned (.bool (m.any (edB id))) ∧ Below w.heap.size w w' := by
 have hb1 : Below w.heap.size w (w.alloc (.cells #[.int .i64 id] 3)) := (Below.refl _ _).alloc (Nat.le_refl _) _
 have G := xh (yy204 A c m w.heap.size id (w.alloc (.cells #[.int .i64 id] 3)) (by simp) (cell_of_row _ _ _ _ _ _ (heap_alloc_new w _)) (hA.below hb1) hml)
 have HB := xh hb1
 clear hb1 hA
 obtain ⟨T, HT⟩ : ∃ T, Hid (m.any (edB id) = T) := ⟨_, xh rfl⟩
 rw [HT.out] at G ⊢
 go_enter Tryd.func54, Tryd.ntmps54
 go_wp2_with fail
 refine G.out.mono ?_
 rintro e w1 ⟨rfl, hb⟩
 go_wp2
 go_ret
 exact ⟨rfl, HB.out.trans (hb.mono HB.out.size)⟩
def insK (l : List CompV) : Nat := (l.map fun c => if c.kind = 2 then loose c.text else 0).sum
def insA (l : List ActV) : Nat := (l.map fun a => insK a.ops).sum
theorem yy438 (l m : List CompV) : insK (l ++ m) = insK l + insK m := by simp [insK]
theorem yy439 (l m : List ActV) : insA (l ++ m) = insA l + insA m := by simp [insA]
theorem yy586 {l : List CompV} {k : Nat} (hk : k < l.length) : insK (l.take (k + 1)) = insK (l.take k) + if l[k].kind = 2 then loose l[k].text else 0 := by
 rw [List.take_succ_eq_append_getElem hk, yy438]
 simp [insK]
theorem yy391 {l : List ActV} {k : Nat} (hk : k < l.length) : insA (l.take (k + 1)) = insA (l.take k) + insK l[k].ops := by
 rw [List.take_succ_eq_append_getElem hk, yy439]
 simp [insA]
theorem yy635 (l : List CompV) : insK l ≤ tlen l := by
 induction l with
 | nil => simp [insK]
 | cons c l ih =>
  have h1 : insK (c :: l) = (if c.kind = 2 then loose c.text else 0) + insK l := by simp [insK]
  have h2 : tlen (c :: l) = c.text.length + tlen l := by simp [tlen]
  have := yy122 c.text
  split at h1 <;> omega
theorem yy345 (l : List CompV) (k : Nat) : tlen (l.take k) ≤ tlen l := by
 have h : tlen l = tlen (l.take k) + tlen (l.drop k) := by
  have e := List.take_append_drop k l
  unfold tlen
  rw [← List.length_append, ← List.flatMap_append, e]
 omega
theorem yy743 {l : List CompV} (h : rCheck l = 0) : insK l = insT l := by
 have hw := (ok_of h).wh
 unfold insK insT
 congr 1
 refine List.map_congr_left fun c hc => ?_
 rcases (hw c hc).cases with ⟨k, _, t⟩ | ⟨k, _, t⟩ | ⟨k, _, _, t⟩
 ·rw [if_neg (by omega), t, yy186]; rfl
 ·rw [if_neg (by omega), t, yy186]; rfl
 ·rw [if_pos k, yy365 t]
theorem yy744 {a b : Int} (h1 : 0 ≤ a) (h2 : 0 ≤ b) (h3 : a + b ≤ 1099511627776) : hld a b = a + b := by unfold hld; omega
theorem yy690 {n : Int} {t : List Nat} (h : t.length ≤ 1099511627776) : rOut [CompV.mk 2 n t] = (loose t : Int) := by
 have := yy122 t
 rw [show [CompV.mk 2 n t] = [] ++ [CompV.mk 2 n t] from rfl, yy231, yy645]
 rw [yy54, if_neg (by simp), if_pos rfl, yy744 (by omega) (by omega) (by simp only; omega), Int.zero_add]
theorem yy745 {l : List ActV} (h : ∀ a ∈ l, ActOk a) : insA l ≤ l.length * 4000 := by
 induction l with
 | nil => simp [insA]
 | cons a l ih =>
  have h1 : insA (a :: l) = insK a.ops + insA l := by simp [insA]
  have h2 := ih fun x hx => h x (List.mem_cons_of_mem _ hx)
  have h3 := yy635 a.ops
  have h4 := (h a (List.mem_cons_self ..)).2.2.2
  rw [List.length_cons]
  omega
set_option maxHeartbeats 4000000 in
set_option maxRecDepth 100000 in
theorem yy346 (A : Option Addr) (c : Nat) (l : List ActV) (hl : l.length ≤ 1048576) (hg : ∀ a ∈ l, ActOk a) (w : World) (hA : ActsAt w A l) :
  Calls Tryd.prog 55 #[.slice A l.length c] w fun e w' => e = .returned (.int .i64 (insA l : Int)) ∧ Below w.heap.size w w' := by
 have HA := xh hA; clear hA
 have HG := xh hg; clear hg
 have HTAKE : Hid (∀ k, insA (l.take k) ≤ 4194304000) := xh (fun k => by
  have h := yy745 (l := l.take k) fun a ha => HG.out a (List.mem_of_mem_take ha)
  rw [List.length_take] at h
  omega)
 go_enter Tryd.func55, Tryd.ntmps55
 go_wp2
 go_loopw [3, 5, 7, 10] (fun n s5 s7 i wr => ∃ k N : Nat, k ≤ l.length ∧ n = .int .i64 (N : Int) ∧ s5 = s5 ∧ s7 = s7 ∧ i = .int .i64 (k : Int) ∧ Hid (insA (l.take k) = N) ∧ Hid (Below w.heap.size w wr)) (fun _ _ _ i _ => l.length - (intOf i).toNat)
 case atStart => exact ⟨0, 0, Nat.zero_le _, rfl, rfl, rfl, rfl, xh rfl, xh (Below.refl _ _)⟩
 case round =>
  obtain ⟨k, N, hk, rfl, _, _, rfl, HN, HBEL⟩ := hrel
  obtain ⟨wo, hwo⟩ : ∃ x, x = wr := ⟨wr, rfl⟩
  subst hwo
  have hNT := HTAKE.out k
  rw [HN.out] at hNT
  by_cases hlt : k < l.length
  ·obtain ⟨b, off, rfl, _⟩ := HA.out.form (by omega)
   have hltI : (k : Int) < (l.length : Int) := by omega
   obtain ⟨z0, z1, z2, z3, z4, z5⟩ := (HA.out.below HBEL.out).at_ hlt
   have HCO := xh ((HA.out.below HBEL.out).2 _ (List.getElem_mem hlt))
   have HOK := xh (HG.out _ (List.getElem_mem hlt))
   have HNX : Hid (insA (l.take (k + 1)) = N + insK l[k].ops) := xh (by rw [yy391 hlt, HN.out])
   have hNX := HTAKE.out (k + 1)
   rw [HNX.out] at hNX
   generalize l[k] = a at z0 z1 z2 z3 z4 z5 HCO HOK HNX hNX
   obtain ⟨ak, ai, ap, an, ad, aA, aC, ao⟩ := a
   simp only at z0 z1 z2 z3 z4 z5 HCO HOK HNX hNX
   have hol := HOK.out.1.2.2.2.2.2
   simp only at hol
   have HOL : Hid (ao.length ≤ maxLen) := xh (by omega)
   unfold maxLen at hol
   have hbo : Below wo.heap.size wo (wo.alloc (.cells #[.int .i64 ak, .int .i64 ai, .int .i64 ap, .string (bstr an), .bool ad, .slice aA ao.length aC] 46)) := (Below.refl _ _).alloc (Nat.le_refl _) _
   have HBO := xh hbo
   clear hbo
   go_wp2
   go_loopw [3, 7, 17] (fun n s7 j wr => ∃ m M : Nat, m ≤ ao.length ∧ n = .int .i64 (M : Int) ∧ s7 = s7 ∧ j = .int .i64 (m : Int) ∧ Hid (N + insK (ao.take m) = M) ∧ Hid (Below wo.heap.size wo wr)) (fun _ _ j _ => ao.length - (intOf j).toNat)
   case atStart => exact ⟨0, N, Nat.zero_le _, rfl, rfl, rfl, xh rfl, HBO⟩
   case round =>
    obtain ⟨m, M, hm, rfl, _, rfl, HM, HBM⟩ := hrel
    obtain ⟨wi, hwi⟩ : ∃ x, x = wr := ⟨wr, rfl⟩
    subst hwi
    have hM : M ≤ 4194312000 := by
     have h1 := yy635 (ao.take m)
     have h2 := yy345 ao m
     have h3 := HOK.out.2.2.2
     have h4 := HM.out
     simp only at h3
     omega
    by_cases hmt : m < ao.length
    ·obtain ⟨b2, off2, rfl, _⟩ := HCO.out.form (by omega)
     have hmtI : (m : Int) < (ao.length : Int) := by omega
     obtain ⟨x0, x1, x2⟩ := (HCO.out.below HBM.out).at_ hmt
     have HCG := xh (HOK.out.2.2.1 _ (List.getElem_mem hmt))
     have HMX : Hid (N + insK (ao.take (m + 1)) = M + if ao[m].kind = 2 then loose ao[m].text else 0) := xh (by rw [yy586 hmt, ← HM.out]; omega)
     generalize ao[m] = y at x0 x1 x2 HCG HMX
     obtain ⟨yk, yn, yt⟩ := y
     simp only at x0 x1 x2 HCG HMX
     have HBX : Hid (Below wo.heap.size wo (wi.alloc (.cells #[.int .i64 yk, .int .i64 yn, .string (bstr yt)] 51))) := xh (HBM.out.alloc HBM.out.size _)
     by_cases h2 : yk = 2
     ·subst h2
      rw [if_pos rfl] at HMX
      have GO := xh (fun (w : World) (g : Nat) (hg : g = w.heap.size) => yy241 (some ⟨g, 0, none⟩) 1 [CompV.mk 2 yn yt] (by simp [maxLen]) (fun y hy => by rw [List.mem_singleton.1 hy]; exact HCG.out) (w.alloc (.cells #[.int .i64 2, .int .i64 yn, .string (bstr yt)] 51)) (yy4.lit (fun j v hv => by simpa [yy2] using hv) hg))
      rw [yy690 HCG.out.2] at GO
      simp only [List.length_cons, List.length_nil, Nat.zero_add] at GO
      have hzl := yy122 yt
      have hzm := HCG.out.2
      obtain ⟨z, HZ⟩ : ∃ z, Hid (loose yt = z) := ⟨_, xh rfl⟩
      rw [HZ.out] at GO hzl HMX
      go_wp2_with fail
      refine (GO.out _ _ (by simp)).mono ?_
      rintro e w2 ⟨rfl, hb2⟩
      have HB2 : Hid (Below wo.heap.size wo w2) := xh (HBX.out.trans ((((Below.refl _ _).alloc (Nat.le_refl _) _).trans (hb2.mono (by simp))).mono HBX.out.size))
      go_wp2
      go_roundw
      case rel => exact ⟨m + 1, M + z, by omega, by go_num, trivial, by go_num, HMX, HB2⟩
      case measure => simp [intOf]; omega
     ·rw [if_neg h2, Nat.add_zero] at HMX
      have g2 : (yk == 2) = false := xn h2
      clear h2
      go_wp2
      go_roundw
      case rel => exact ⟨m + 1, M, by omega, rfl, trivial, by go_num, HMX, HBX⟩
      case measure => simp [intOf]; omega
    ·obtain rfl : m = ao.length := by omega
     have HE : Hid (insA (l.take (k + 1)) = M) := xh (by rw [HNX.out, ← HM.out, List.take_length])
     have HB3 := xh (HBEL.out.trans (HBM.out.mono HBEL.out.size))
     go_wp2
     go_roundw
     case rel => exact ⟨k + 1, M, by omega, rfl, trivial, trivial, by go_num, HE, HB3⟩
     case measure => simp [intOf]; omega
  ·obtain rfl : k = l.length := by omega
   have HE : Hid (insA l = N) := xh (by have := HN.out; rwa [List.take_length] at this)
   go_wp2
   go_ret
   exact ⟨by rw [HE.out]; rfl, HBEL.out⟩
end Go.Proofs.YtjpjdkdbgjipnaaDoor
