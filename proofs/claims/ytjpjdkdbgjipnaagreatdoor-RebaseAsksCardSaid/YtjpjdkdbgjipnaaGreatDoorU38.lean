/- One act behind what was done, in each of its ways; what the document fixes of it. No condition. (Merged of 6 texts.) -/
import Derived.Test.YtjpjdkdbgjipnaaGreatDoorU10
import Derived.Test.YtjpjdkdbgjipnaaGreatDoorU32
import Derived.Test.YtjpjdkdbgjipnaaGreatDoorU9
import Derived.Test.YtjpjdkdbgjipnaaGreatDoorU11
import Derived.Deep.CutRange
import Derived.Deep.DeepCutAuto
import Derived.Test.YtjpjdkdbgjipnaaGreatDoorU2
namespace Go.Proofs.YtjpjdkdbgjipnaaGreatDoor
theorem yy515 {a b : ActV} : aKey a = aKey b ↔ a.kind = b.kind ∧ a.id = b.id ∧ a.parent = b.parent ∧ a.name = b.name ∧ a.dir = b.dir ∧ a.ops = b.ops := by simp only [aKey, Prod.mk.injEq]
theorem yy687 {a b : ActV} (ks : List OneK) (h : aKey a = aKey b) : rWhy a ks = rWhy b ks := by
 obtain ⟨h1, h2, h3, h4, _, _⟩ := yy515.1 h
 unfold rWhy
 rw [h1, h2, h3, h4]
theorem yy593 {a b : ActV} (ks : List OneK) (h : aKey a = aKey b) : (rbOne a ks).2 = (rbOne b ks).2 ∧ (rbOne a ks).1.toList.map aKey = (rbOne b ks).1.toList.map aKey := by
 have hw := yy687 ks h
 have hk := h
 obtain ⟨h1, h2, h3, h4, h5, h6⟩ := yy515.1 h
 have hl : rbLeft a ks = rbLeft b ks := by unfold rbLeft; rw [h1, h2]
 have he : rbEdit a ks ↔ rbEdit b ks := by unfold rbEdit; rw [h1, h2]
 by_cases g1 : rWhy a ks = 0
 ·have g1' : rWhy b ks = 0 := by rw [← hw]; exact g1
  cases g2 : rbLeft a ks with
  | true =>
   rw [yy107 g1 g2, yy107 g1' (by rw [← hl]; exact g2)]
   exact ⟨rfl, rfl⟩
  | false =>
   have g2' : rbLeft b ks = false := by rw [← hl]; exact g2
   by_cases g3 : rbEdit a ks
   ·have g3' := he.1 g3
    by_cases g4 : (rOver false a.ops (getK0 ks a.id).ops).2 = 0
    ·have g4' := g4
     rw [h6, h2] at g4'
     rw [yy108 g1 g2 g3 g4, yy108 g1' g2' g3' g4']
     refine ⟨rfl, ?_⟩
     simp only [Option.toList_some, List.map_cons, List.map_nil, aKey, h1, h2, h3, h4, h5, h6]
    ·have g4' := g4
     rw [h6, h2] at g4'
     rw [yy203 g1 g2 g3 g4, yy203 g1' g2' g3' g4', h6, h2]
     exact ⟨rfl, rfl⟩
   ·have g3' : ¬ rbEdit b ks := fun q => g3 (he.2 q)
    rw [yy152 g1 g2 g3, yy152 g1' g2' g3']
    refine ⟨rfl, ?_⟩
    simp only [Option.toList_some, List.map_cons, List.map_nil, hk]
 ·have g1' : rWhy b ks ≠ 0 := by rw [← hw]; exact g1
  rw [yy151 g1, yy151 g1', hw]
  exact ⟨rfl, rfl⟩
theorem yy647 (ks : List OneK) : ∀ {r r' out out' : List ActV}, r.map aKey = r'.map aKey → out.map aKey = out'.map aKey → (rbR ks out r).2 = (rbR ks out' r').2 ∧ (rbR ks out r).1.map aKey = (rbR ks out' r').1.map aKey
 | [], [], _, _, _, ho => by rw [rbR, rbR]; exact ⟨rfl, ho⟩
 | [], _ :: _, _, _, h, _ => by cases h
 | _ :: _, [], _, _, h, _ => by cases h
 | a :: r, b :: r', out, out', h, ho => by
  rw [List.map_cons, List.map_cons] at h
  injection h with hab hr
  obtain ⟨k1, k2⟩ := yy593 ks hab
  by_cases g : (rbOne a ks).2 = 0
  ·have g' : (rbOne b ks).2 = 0 := by rw [← k1]; exact g
   rw [rbR_go g, rbR_go g']
   refine yy647 ks hr ?_
   rw [List.map_append, List.map_append, ho, k2]
  ·have g' : (rbOne b ks).2 ≠ 0 := by rw [← k1]; exact g
   rw [yy135 g, yy135 g', k1]
   exact ⟨rfl, rfl⟩
theorem yy648 (ks : List OneK) {l m : List ActV} (h : l.map aKey = m.map aKey) : (rRb l ks).2 = (rRb m ks).2 ∧ (rRb l ks).1.map aKey = (rRb m ks).1.map aKey := by
 obtain ⟨k1, k2⟩ := yy647 ks h (rfl : ([] : List ActV).map aKey = [].map aKey)
 unfold rRb
 rw [yy284 h, k1, yy284 k2]
 split
 ·exact ⟨rfl, rfl⟩
 split
 ·exact ⟨rfl, rfl⟩
 split
 ·exact ⟨rfl, rfl⟩
 ·exact ⟨rfl, k2⟩
theorem yy445 (l : List ActV) : yy58 l [] = (l, 0) := by rw [yy58]
theorem yy223 {l c : List ActV} {cs : List (List ActV)} (h : (rRb l (eff c)).2 ≠ 0) : yy58 l (c :: cs) = ([], (rRb l (eff c)).2) := by rw [yy58, if_pos h]
theorem yy312 {l c : List ActV} {cs : List (List ActV)} (h : (rRb l (eff c)).2 = 0) : yy58 l (c :: cs) = yy58 (rRb l (eff c)).1 cs := by rw [yy58, if_neg (fun e => e h)]
theorem yy176 (c : CompV) (l : List CompV) : tlen (c :: l) = c.text.length + tlen l := by simp [tlen]
theorem yy595 {c : CompV} (h : c.kind ≠ 2) (l : List CompV) (n : Nat) : tlen (chop c l n) ≤ tlen l := by
 unfold chop
 split
 ·exact Nat.le_refl _
 ·rw [yy176, cut, if_neg h]
  simp
theorem Ov.text {f : Bool} {a b o : List CompV} (h : Ov f a b o) : tlen o ≤ tlen a := by
 induction h with
 | nil => exact Nat.le_refl _
 | puts c a b o _ _ _ ih => rw [yy176, yy176]; omega
 | pass a d b o _ _ _ ih => rw [yy176]; simp; exact ih
 | both c a d b o n hc _ _ _ ih =>
  have h1 := yy595 hc a n
  have h2 := yy176 c a
  rw [yy80]
  have h3 : tlen (if d.kind = 1 then [piece c n] else []) = 0 := by
   split
   ·rw [yy176, piece, if_neg hc]
    rfl
   ·rfl
  omega
theorem yy313 (f : Bool) (a b : List CompV) : tlen (rOver f a b).1 ≤ tlen a := by
 by_cases h : (rOver f a b).2 = 0
 ·obtain ⟨oa, ob, he⟩ := yy741 h
  obtain ⟨d, hd⟩ := yy740 f oa ob he
  obtain ⟨o, ho, e, _⟩ := hd.raw
  rw [hd.over]
  show tlen d ≤ _
  rw [e]
  exact Nat.le_trans (yy263 o) ho.text
 ·rw [yy585 h]
  exact Nat.zero_le _
def ActB (a : ActV) : Prop := ActH a ∧ a.name.length ≤ 4000 ∧ tlen a.ops ≤ 4000
theorem ActB.ok {a : ActV} (h : ActB a) : ActOk a := ⟨h.1.1, h.2.1, h.1.2.1.fine, h.2.2⟩
theorem acts_b {lim : Nat} (hlim : lim ≤ 4000) {l : List ActV} (hg : ∀ y ∈ l, y.Good) (h : yy34 lim l ≤ lim) : l.length ≤ 4000 ∧ ∀ y ∈ l, ActB y := by
 obtain ⟨h1, _⟩ := yy278 (yy76 lim) lim (by omega) l h
 obtain ⟨h2, h3⟩ := yy587 hlim hg h
 refine ⟨h2, fun y hy => ⟨h3 y hy, ?_, ?_⟩⟩
 ·have h4 := h1 y hy
  simp only [yy76, List.sum_cons, List.sum_nil] at h4
  omega
 ·have h4 := h1 y hy
  simp only [yy76, List.sum_cons, List.sum_nil] at h4
  have h5 := yy171 lim (by omega) y.ops (by omega)
  omega
open Classical in
noncomputable def passF (a : ActV) (y : OneK) : List CompV × Nat := if a.kind = 4 ∧ y.edited = true ∧ y.ops ≠ [] then rOver false a.ops y.ops else (a.ops, 0)
theorem yy518 (a : ActV) (y : OneK) : tlen (passF a y).1 ≤ tlen a.ops := by
 unfold passF
 split
 ·exact yy313 _ _ _
 ·exact Nat.le_refl _
theorem yy519 {a : ActV} {ks : List OneK} (h : rWhy a ks = 0) (hl : rbLeft a ks = false) (h0 : (passF a (getK0 ks a.id)).2 = 0) : rbOne a ks = (some { a with ops := (passF a (getK0 ks a.id)).1 }, 0) := by
 by_cases he : rbEdit a ks
 ·have e : passF a (getK0 ks a.id) = rOver false a.ops (getK0 ks a.id).ops := if_pos he
  rw [e] at h0 ⊢
  exact yy108 h hl he h0
 ·have e : passF a (getK0 ks a.id) = (a.ops, 0) := if_neg he
  rw [e, yy152 h hl he]
theorem yy285 {a : ActV} {ks : List OneK} (h : rWhy a ks = 0) (hl : rbLeft a ks = false) (h0 : (passF a (getK0 ks a.id)).2 ≠ 0) : rbOne a ks = (none, ((passF a (getK0 ks a.id)).2 : Int)) := by
 by_cases he : rbEdit a ks
 ·have e : passF a (getK0 ks a.id) = rOver false a.ops (getK0 ks a.id).ops := if_pos he
  rw [e] at h0 ⊢
  exact yy203 h hl he h0
 ·have e : passF a (getK0 ks a.id) = (a.ops, 0) := if_neg he
  rw [e] at h0
  exact absurd rfl h0
end Go.Proofs.YtjpjdkdbgjipnaaGreatDoor
namespace Go.Proofs.YtjpjdkdbgjipnaaGreatDoor
open Go.RowKit Go.Deep
set_option maxHeartbeats 8000000 in
set_option maxRecDepth 100000 in
theorem yy529 (a : ActV) (y : OneV) (hk : Held1 a.ops) (hnm : a.name.length ≤ 1048576) (hy : Held1 y.k.ops) (w : World) (hA : CompsC w a.opsA a.opsC a.ops) (hY : CompsC w y.opsA y.opsC y.k.ops) :
  Calls Tryz.prog 25 #[.agg (yy0 a).toArray, .agg (yy5 y).toArray] w fun e w' => ∃ A2 c2, e = .returned (.tuple #[.agg (yy0 { a with opsA := A2, opsC := c2, ops := (passF a y.k).1 }).toArray, .int .i64 ((passF a y.k).2 : Int)]) ∧ (passF a y.k).1.length ≤ c2 ∧ c2 ≤ maxLen ∧ Held1 (passF a y.k).1 ∧ w'.ownsRow w.heap.size 60 3 (.slice A2 (passF a y.k).1.length c2) (passF a y.k).1.length ((passF a y.k).1.flatMap yy2) ∧ Below w.heap.size w w' := by
 have HA := xh (fun (W : World) (h : Below w.heap.size w W) => hA.below h)
 have HY := xh (fun (W : World) (h : Below w.heap.size w W) => hY.below h)
 have HHA := xh hk
 have HHY := xh hy
 have HNM := xh hnm
 clear hA hY hk hy hnm
 obtain ⟨ak, ai, ap, an, ad, aA, aC, ao⟩ := a
 obtain ⟨⟨xi, xo, xe, xr, xc, xm, xp, xn⟩, xA, xC⟩ := y
 have HPT : Hid ((ak = 4 ∧ xe = true ∧ xo ≠ []) → passF ⟨ak, ai, ap, an, ad, aA, aC, ao⟩ ⟨xi, xo, xe, xr, xc, xm, xp, xn⟩ = rOver false ao xo) := xh (fun h => if_pos h)
 have HPN : Hid (¬ (ak = 4 ∧ xe = true ∧ xo ≠ []) → passF ⟨ak, ai, ap, an, ad, aA, aC, ao⟩ ⟨xi, xo, xe, xr, xc, xm, xp, xn⟩ = (ao, 0)) := xh (fun h => if_neg h)
 simp only at HA HY HHA HHY HNM ⊢
 generalize passF ⟨ak, ai, ap, an, ad, aA, aC, ao⟩ ⟨xi, xo, xe, xr, xc, xm, xp, xn⟩ = Q at HPT HPN ⊢
 obtain ⟨P, q⟩ := Q
 simp only
 unfold yy0 yy5
 simp only
 obtain ⟨g, hg⟩ : ∃ g, g = w.heap.size := ⟨_, rfl⟩
 have HR1 := xh (((yy53 w 26 (.int .i64 ak) (.int .i64 ai) (.int .i64 ap) (.string (bstr an)) (.bool ad) (.slice aA ao.length aC)).alloc (Obj.cells #[.int .i64 xi, .slice xA xo.length xC, .bool xe, .bool xr, .bool xc, .bool xm, .int .i64 xp, .string (bstr xn)] 63)).alloc (Obj.cells #[.int .i64 0, .int .i64 0, .int .i64 0, .string { data := #[] }, .bool false, .slice none 0 0] 26))
 have HR2 := xh ((yy24 (w.alloc (.cells #[.int .i64 ak, .int .i64 ai, .int .i64 ap, .string (bstr an), .bool ad, .slice aA ao.length aC] 26)) 63 (.int .i64 xi) (.slice xA xo.length xC) (.bool xe) (.bool xr) (.bool xc) (.bool xm) (.int .i64 xp) (.string (bstr xn))).alloc (Obj.cells #[.int .i64 0, .int .i64 0, .int .i64 0, .string { data := #[] }, .bool false, .slice none 0 0] 26))
 have HR3 := xh (yy53 ((w.alloc (.cells #[.int .i64 ak, .int .i64 ai, .int .i64 ap, .string (bstr an), .bool ad, .slice aA ao.length aC] 26)).alloc (.cells #[.int .i64 xi, .slice xA xo.length xC, .bool xe, .bool xr, .bool xc, .bool xm, .int .i64 xp, .string (bstr xn)] 63)) 26 (.int .i64 0) (.int .i64 0) (.int .i64 0) (.string { data := #[] }) (.bool false) (.slice none 0 0))
 have HB1 : Hid (Below w.heap.size w _) := xh ((((Below.refl w.heap.size w).alloc (Nat.le_refl _) (.cells #[.int .i64 ak, .int .i64 ai, .int .i64 ap, .string (bstr an), .bool ad, .slice aA ao.length aC] 26)).alloc (by simp) (.cells #[.int .i64 xi, .slice xA xo.length xC, .bool xe, .bool xr, .bool xc, .bool xm, .int .i64 xp, .string (bstr xn)] 63)).alloc (by simp; omega) (.cells #[.int .i64 0, .int .i64 0, .int .i64 0, .string { data := #[] }, .bool false, .slice none 0 0] 26))
 rw [World.size_alloc, World.size_alloc, ← hg] at HR3
 rw [World.size_alloc, ← hg] at HR2
 rw [← hg] at HR1 HB1 HA HY
 have HG := xh hg
 clear hg
 obtain ⟨W0, HW0⟩ : ∃ x, Hid ((((w.alloc (.cells #[.int .i64 ak, .int .i64 ai, .int .i64 ap, .string (bstr an), .bool ad, .slice aA ao.length aC] 26)).alloc (.cells #[.int .i64 xi, .slice xA xo.length xC, .bool xe, .bool xr, .bool xc, .bool xm, .int .i64 xp, .string (bstr xn)] 63)).alloc (.cells #[.int .i64 0, .int .i64 0, .int .i64 0, .string { data := #[] }, .bool false, .slice none 0 0] 26)) = x) := ⟨_, xh rfl⟩
 rw [HW0.out] at HR1 HR2 HR3 HB1
 rw [← HG.out]
 go_enter Tryz.func25, Tryz.ntmps25
 go_upto_region 1 with fail
 rw [← HG.out, HW0.out]
 clear HW0
 obtain ⟨bb, HBB⟩ : ∃ bb : Bool, Hid (bb = true ↔ ak = 4 ∧ xe = true ∧ xo ≠ []) := ⟨@decide _ (Classical.propDecidable _), xh (@decide_eq_true_iff _ (Classical.propDecidable _))⟩
 go_upto_region 2 with fail
 go_cut [19] from 7 to 19 (fun s wc => s = .bool bb ∧ wc = W0)
 case first =>
  obtain ⟨y0, y1, y2, y3, y4, y5⟩ := yy10 HR1.out
  obtain ⟨x0, x1, x2, x3, x4, x5, x6, x7⟩ := yy9 HR2.out
  clear y1 y2 y3 y4 y5 x0 x3 x4 x5 x6 x7
  by_cases h4 : ak = 4
  ·obtain rfl : ak = 4 := h4
   cases xe with
   | false =>
    have HE : Hid (bb = false) := xh (by rw [Bool.eq_false_iff]; intro h; exact absurd (HBB.out.1 h).2.1 (by simp))
    go_wp2
    go_meet
    case rel => exact ⟨by rw [HE.out], rfl⟩
   | true =>
    by_cases h0 : xo = []
    ·subst h0
     have HE : Hid (bb = false) := xh (by rw [Bool.eq_false_iff]; intro h; exact (HBB.out.1 h).2.2 rfl)
     go_wp2
     go_meet
     case rel => exact ⟨by rw [HE.out], rfl⟩
    ·have HE : Hid (bb = true) := xh (HBB.out.2 ⟨rfl, rfl, h0⟩)
     have hlen : 0 < xo.length := Nat.pos_of_ne_zero (fun h => h0 (List.length_eq_zero_iff.1 h))
     have hlenI : (0 : Int) < (xo.length : Int) := by omega
     clear h0
     go_wp2
     go_meet
     case rel => exact ⟨by rw [HE.out], rfl⟩
  ·have d4 : (ak == 4) = false := beq_eq_false_iff_ne.2 h4
   have HE : Hid (bb = false) := xh (by rw [Bool.eq_false_iff]; intro h; exact h4 (HBB.out.1 h).1)
   clear h4
   go_wp2
   go_meet
   case rel => exact ⟨by rw [HE.out], rfl⟩
 case rest =>
  obtain ⟨rfl, rfl⟩ := hcut
  have hlg := HR1.out.lt
  have HLG := xh hlg
  clear hlg
  go_upto_if 19 with fail
  go_cut [6] from 20 to 28 (fun s6 wx => ∃ A' c', s6 = .int .i64 (q : Int) ∧ World.rowIs wx g 26 6 (sixV (.int .i64 ak) (.int .i64 ai) (.int .i64 ap) (.string (bstr an)) (.bool ad) (.slice A' P.length c')) ∧ World.rowIs wx (g + 1 + 1) 26 6 (sixV (.int .i64 0) (.int .i64 0) (.int .i64 0) (.string { data := #[] }) (.bool false) (.slice none 0 0)) ∧ yy8 wx A' P ∧ Held1 P ∧ Below g w wx)
  case first =>
   cases bb with
   | false =>
    have h := HPN.out (fun h => absurd (HBB.out.2 h) (by simp))
    injection h with h1 h2
    subst h1 h2
    go_wp2
    go_meet
    case rel => exact ⟨aA, aC, rfl, HR1.out, HR3.out, (HA.out _ HB1.out).1, HHA.out, HB1.out⟩
   | true =>
    have HO := xh (HPT.out (HBB.out.1 rfl))
    have GO := xh (yy157 aA aC ao xA xC xo HHA.out.max HHY.out.max HHA.out.fine HHY.out.fine false wc (HA.out _ HB1.out) (HY.out _ HB1.out))
    rw [← HO.out] at GO
    obtain ⟨y0, y1, y2, y3, y4, y5⟩ := yy10 HR1.out
    obtain ⟨x0, x1, x2, x3, x4, x5, x6, x7⟩ := yy9 HR2.out
    clear y0 y1 y2 y3 y4 x0 x2 x3 x4 x5 x6 x7
    go_wp2_with fail
    refine (GO.out).mono ?_
    rintro e w2 ⟨⟨A2, c2, rfl, hown⟩, hh, hb⟩
    have HRA := xh (HR1.out.of_block (hb.block _ HR1.out.lt))
    have HRC := xh (HR3.out.of_block (hb.block _ HR3.out.lt))
    have HBA : Hid (Below g w w2) := xh (HB1.out.trans (hb.mono (Nat.le_of_lt HLG.out)))
    have HOWN := xh hown
    have HHP := xh hh
    clear y5 x1 hb hown hh GO
    have h5 := HRA.out.cell (i := 5) (by omega)
    have f5 := HRA.out.frozen 5
    go_wp2
    go_meet
    case rel => exact ⟨A2, c2, rfl, (HRA.out.set 5 (.slice A2 P.length c2)).congr fun i hi => by rcases (show i = 0 ∨ i = 1 ∨ i = 2 ∨ i = 3 ∨ i = 4 ∨ i = 5 by omega) with rfl | rfl | rfl | rfl | rfl | rfl <;> rfl, HRC.out.setOther (a := ⟨g, 5, none⟩) (by show g + 1 + 1 ≠ g; omega) _, yy7.of_own (ownsRow_setCell_below (a := ⟨g, 5, none⟩) HOWN.out HLG.out _), HHP.out, HBA.out.setCell (p := ⟨g, 5, none⟩) (Nat.le_refl g) _⟩
  case rest =>
   clear HR1 HR2 HR3 HB1 HA HY HLG
   obtain ⟨A1, c1, rfl, hr1, hr3, hc, hh, hb⟩ := hcut
   have HR1 := xh hr1
   have HR3 := xh hr3
   have HB1 := xh hb
   have HHP := xh hh
   have GO := xh (yy406 ⟨ak, ai, ap, an, ad, A1, c1, P⟩ hh HNM.out wc hc)
   unfold yy0 at GO
   simp only at GO
   clear hr1 hr3 hc hh hb
   obtain ⟨y0, y1, y2, y3, y4, y5⟩ := yy10 HR1.out
   go_wp2_with fail
   refine (GO.out).mono ?_
   rintro e w2 ⟨⟨A2, c2, rfl, hl1, hl2, hown⟩, hb⟩
   have HRC := xh (HR3.out.of_block (hb.block _ HR3.out.lt))
   have HBA : Hid (Below g w w2) := xh (HB1.out.trans (hb.mono (Nat.le_of_lt HR1.out.lt)))
   have HOWN := xh hown
   have HLT : Hid (g + 1 + 1 < wc.heap.size) := xh HR3.out.lt
   have HRM := xh (And.intro hl1 hl2)
   clear y0 y1 y2 y3 y4 y5 hb hown hl1 hl2 GO HR1 HR3 HB1
   obtain ⟨⟨a0, f0⟩, ⟨a1, f1⟩, ⟨a2, f2⟩, ⟨a3, f3⟩, ⟨a4, f4⟩, ⟨a5, f5⟩, hres⟩ := yy505 HRC.out (.int .i64 ak) (.int .i64 ai) (.int .i64 ap) (.string (bstr an)) (.bool ad) (.slice A2 P.length c2)
   have HRES := xh (yy644 hres)
   clear hres
   go_wp2
   refine bodyPost_ret (yy44 rfl _ _ (g + 1 + 1) 26 #[.int .i64 ak, .int .i64 ai, .int .i64 ap, .string (bstr an), .bool ad, .slice A2 P.length c2] (0, 0) _ rfl HRES.out Tryz.underlying26 rfl (by kernel_rfl)) rfl ?_
   exact ⟨A2, c2, rfl, HRM.out.1, HRM.out.2, HHP.out, yy36 (yy506 HOWN.out HLT.out _ _ _ _ _ _) (by have := HLT.out; omega), yy279 HBA.out (by omega) _ _ _ _ _ _⟩
end Go.Proofs.YtjpjdkdbgjipnaaGreatDoor
namespace Go.Proofs.YtjpjdkdbgjipnaaGreatDoor
def edE (id : Int) (A : Option Go.Addr) (c : Nat) (a : List CompV) : ActV := ⟨4, id, 0, [], false, A, c, a⟩
theorem edE_ok {id : Int} (h1 : 1 ≤ id) (h2 : id ≤ 1099511627776) (A : Option Go.Addr) (c : Nat) (a : List CompV) : ¬ ABad (edE id A c a) := by
 have e1 : (edE id A c a).kind = 4 := rfl
 have e2 : (edE id A c a).id = id := rfl
 have e3 : (edE id A c a).parent = 0 := rfl
 rintro (h | h | h | h | h | h | h | h)
 ·rw [e1] at h; omega
 ·rw [e1] at h; omega
 ·exact h (by rw [yy353 rfl]; rfl)
 ·rw [e2] at h; omega
 ·rw [e2] at h; omega
 ·rw [e3] at h; omega
 ·rw [e3] at h; omega
 ·rcases h.1 with g | g
  ·rw [e1] at g; omega
  ·rw [e1] at g; omega
theorem yy563 : ∀ {l : List CompV}, (∀ c ∈ l, Wh c) → insT l ≤ outS l
 | [], _ => by simp [insT]
 | c :: l, h => by
  have ih := yy563 (l := l) fun x hx => h x (List.mem_cons_of_mem _ hx)
  have e : insT (c :: l) = (cps c.text).length + insT l := by simp [insT]
  rw [e, yy60]
  rcases (h c (List.mem_cons_self ..)).cases with ⟨hk, _, ht⟩ | ⟨hk, _, ht⟩ | ⟨hk, _⟩
  ·rw [ht, yy211]; simp; omega
  ·rw [ht, yy211]; simp; omega
  ·rw [yy145 hk]; omega
theorem yy564 {id : Int} (h1 : 1 ≤ id) (h2 : id ≤ 1099511627776) (A : Option Go.Addr) (c : Nat) (a : List CompV) : rChk [edE id A c a] = (rCheck a : Int) := by
 rw [yy222 (by simp)]
 have hb := edE_ok h1 h2 A c a
 by_cases h : rCheck a = 0
 ·rw [yy283 hb rfl h (by simp), yy281, h]
  ·rfl
  ·have h3 := yy563 (ok_of h).wh
   have := (ok_of h).out1
   show ¬ 2000 < 0 + insT a
   omega
 ·rw [yy354 hb rfl h]
  rfl
theorem yy478 {x : ActV} {ks : List OneK} (hc : rChk [x] = 0) (h : rWhy x ks ≠ 0) : rRb [x] ks = ([], rWhy x ks) := by
 have e := yy151 h
 unfold rRb
 rw [yy135 (by rw [e]; exact h), e, if_neg (fun q => q hc), if_pos h]
theorem yy389 {x : ActV} {ks : List OneK} (hc : rChk [x] = 0) (h : rWhy x ks = 0) (hl : rbLeft x ks = true) : rRb [x] ks = ([], 0) := by
 have e := yy107 h hl
 have hr : rbR ks [] [x] = ([], 0) := by rw [rbR_go (by rw [e]), e, rbR]; rfl
 unfold rRb
 rw [hr]
 have h0 : rChk [] = 0 := by rw [yy222 (by simp), yy281 (by omega)]
 simp [hc, h0]
theorem yy390 {x : ActV} {ks : List OneK} {P : List CompV} (hc : rChk [x] = 0) (h : rWhy x ks = 0) (hl : rbLeft x ks = false) (he : rbEdit x ks) (ho : rOver false x.ops (getK0 ks x.id).ops = (P, 0)) (hP : rChk [{ x with ops := P }] = 0) : rRb [x] ks = ([{ x with ops := P }], 0) := by
 have e := yy108 h hl he (by rw [ho])
 rw [ho] at e
 have hr : rbR ks [] [x] = ([{ x with ops := P }], 0) := by rw [rbR_go (by rw [e]), e, rbR]; rfl
 unfold rRb
 rw [hr]
 simp [hc, hP]
def rmE (id : Int) : ActV := ⟨2, id, 0, [], false, none, 0, []⟩
theorem yy714 {x : ActV} (h1 : x.kind = 1 ∨ x.kind = 2 ∨ x.kind = 3) (h2 : aKey x = aKey (aPlain x)) (h3 : 1 ≤ x.id ∧ x.id ≤ 1099511627776) (h4 : 0 ≤ x.parent ∧ x.parent ≤ 1099511627776) (h5 : x.kind = 2 ∨ rName x.name = true) : ¬ ABad x := by
 rintro (h | h | h | h | h | h | h | h)
 ·omega
 ·omega
 ·exact h h2
 ·omega
 ·omega
 ·omega
 ·omega
 ·rcases h5 with g | g
  ·omega
  ·rw [g] at h; exact absurd h.2 (by simp)
theorem chk_plain {x : ActV} (h1 : x.kind = 1 ∨ x.kind = 2 ∨ x.kind = 3) (h2 : aKey x = aKey (aPlain x)) (h3 : 1 ≤ x.id ∧ x.id ≤ 1099511627776) (h4 : 0 ≤ x.parent ∧ x.parent ≤ 1099511627776) (h5 : x.kind = 2 ∨ rName x.name = true) : rChk [x] = 0 := by
 rw [yy222 (by simp), yy282 (yy714 h1 h2 h3 h4 h5) (by omega), yy281 (by omega)]
theorem yy760 {id : Int} (h : 1 ≤ id ∧ id ≤ 1099511627776) : rChk [rmE id] = 0 := chk_plain (.inr (.inl rfl)) (by rw [yy352 rfl]; rfl) h (by show (0 : Int) ≤ 0 ∧ (0 : Int) ≤ 1099511627776; omega) (.inl rfl)
def insX : List CompV := [⟨2, 0, [120]⟩]
def insX2 : List CompV := [⟨1, 1, []⟩, ⟨2, 0, [120]⟩]
theorem yy334 : rCheck insX = 0 ∧ rBase insX = 0 ∧ sz ⟨2, 0, [120]⟩ = 1 ∧ Held1 insX := by
 have h1 : Nrm insX := yy347 (.inr ⟨rfl, rfl, by simp, _, V_one 120 (by omega)⟩) yy640 (fun d h => by simp at h)
 have h2 : rBase insX = 0 := by simp [insX, rBase, yy54]
 have h3 : rOut insX = 1 := by simp [insX, rOut, yy56, hld01, (V_one 120 (by omega)).loose]
 refine ⟨?_, h2, by rw [sz_two rfl, cps_of (V_one 120 (by omega))]; rfl, ⟨fun y hy => by rw [List.mem_singleton.1 hy]; exact yy731 _ _ _ (by omega) (by omega) ⟨fun z hz => by rw [List.mem_singleton.1 hz]; omega, by simp⟩, by simp [insX], by simp [insX, tlen]⟩⟩
 rw [rCheck, yy165 h1, h2, h3]
 simp [insX]
theorem yy626 : rOver false insX insX = (insX2, 0) := by
 obtain ⟨a1, a2, a3, _⟩ := yy334
 have h := Ov.pass (f := false) insX ⟨2, 0, [120]⟩ [] _ (fun h => by have := h.2; revert this; decide) rfl (.puts ⟨2, 0, [120]⟩ [] [] [] rfl (.inr (by decide)) .nil)
 rw [a3] at h
 rw [yy201 a1 a1 rfl h]
 simp [yy19, nRun, nStep, nStart, NS.flush, keepOf, textOf, goneOf, hld01, insX2]
theorem yy715 : rCheck insX2 = 0 := by
 have h1 : Nrm insX2 := yy347 (.inl ⟨.inl rfl, by show (1 : Int) ≤ 1; omega, rfl⟩) (yy347 (.inr ⟨rfl, rfl, by simp, _, V_one 120 (by omega)⟩) yy640 (fun d h => by simp at h)) (fun d h => by
  simp at h
  subst h
  decide)
 have h2 : rBase insX2 = 1 := by simp [insX2, rBase, yy54, hld01]
 have h3 : rOut insX2 = 2 := by
  simp [insX2, rOut, yy56, hld01, (V_one 120 (by omega)).loose]
  rfl
 rw [rCheck, yy165 h1, h2, h3]
 simp [insX2]
def awK : List OneK := [⟨1, insX, true, false, false, false, 0, []⟩, ⟨2, [], false, true, false, false, 0, []⟩]
theorem aw_eff (A : Option Go.Addr) : eff [edE 1 A 1 insX, rmE 2] = awK := rfl
theorem yy427 : getK0 awK 1 = ⟨1, insX, true, false, false, false, 0, []⟩ := rfl
theorem yy565 : getK0 awK 2 = ⟨2, [], false, true, false, false, 0, []⟩ := rfl
theorem yy761 (A : Option Go.Addr) (c : Nat) : rRb [edE 1 A c insX] awK = ([edE 1 A c insX2], 0) := by
 refine yy390 (by rw [yy564 (by omega) (by omega), yy334.1]; rfl) ?_ ?_ ?_ yy626 (by
  show rChk [edE 1 A c insX2] = 0
  rw [yy564 (by omega) (by omega), yy715]
  rfl)
 ·unfold rWhy
  rw [if_pos (show (edE 1 A c insX).kind = 4 from rfl), show (edE 1 A c insX).id = 1 from rfl, yy427]
  rfl
 ·unfold rbLeft
  rw [show (edE 1 A c insX).id = 1 from rfl, yy427]
  simp [edE]
 ·unfold rbEdit
  rw [show (edE 1 A c insX).id = 1 from rfl, yy427]
  exact ⟨rfl, rfl, by simp [insX]⟩
theorem yy762 (A : Option Go.Addr) (c : Nat) : rRb [edE 2 A c insX] awK = ([], 12) := by
 have hw : rWhy (edE 2 A c insX) awK = 12 := by
  unfold rWhy
  rw [if_pos (show (edE 2 A c insX).kind = 4 from rfl), show (edE 2 A c insX).id = 2 from rfl, yy565]
  rfl
 rw [yy478 (by rw [yy564 (by omega) (by omega), yy334.1]; rfl) (by rw [hw]; decide), hw]
theorem aw_rm : rRb [rmE 2] awK = ([], 0) := by
 refine yy389 (yy760 (by omega)) ?_ ?_
 ·unfold rWhy
  rw [show (rmE 2).id = 2 from rfl, yy565]
  rfl
 ·unfold rbLeft
  rw [show (rmE 2).id = 2 from rfl, yy565]
  rfl
theorem aw_why : rWhy (rmE 1) awK = 13 := by
 unfold rWhy
 rw [show (rmE 1).id = 1 from rfl, yy427]
 rfl
end Go.Proofs.YtjpjdkdbgjipnaaGreatDoor
