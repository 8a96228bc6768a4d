/- The document's own Effects: what acts did to whom. Condition: no more than 2^20 acts, acts that may be held. (Merged of 2 texts.) -/
import Derived.Test.YtjpjdkdbgjipnaaGreatDoorU10
import Derived.Test.YtjpjdkdbgjipnaaGreatDoorU46
import Derived.Test.YtjpjdkdbgjipnaaGreatDoorU42
import Derived.Deep.CutRange
import Derived.Deep.DeepCutAuto
import Derived.Test.YtjpjdkdbgjipnaaGreatDoorU8
import Derived.Test.YtjpjdkdbgjipnaaGreatDoorU48
import Derived.Test.YtjpjdkdbgjipnaaGreatDoorU21
import Derived.Test.YtjpjdkdbgjipnaaGreatDoorU12
import Derived.BigQuiet
import Derived.Deep.CutBlock
namespace Go.Proofs.YtjpjdkdbgjipnaaGreatDoor
open Go.RowKit Go.Deep
def whyF (kind : Int) (x : OneK) (yr : Bool) (par : Int) (name : List Nat) : Int :=
 if kind = 4 then (if x.removed then 12 else 0)
 else if kind = 2 then (if (x.edited || x.moved) && !x.removed then 13 else 0)
 else if kind = 3 then (if x.removed then 12 else if x.moved = true ∧ (x.parent ≠ par ∨ x.name ≠ name) then 13 else if yr then 12 else 0)
 else if kind = 1 then (if x.created then 13 else if yr then 12 else 0)
 else 0
theorem rWhy_f (a : ActV) (ks : List OneK) : rWhy a ks = whyF a.kind (getK0 ks a.id) (getK0 ks a.parent).removed a.parent a.name := rfl
theorem yy386 (l : List OneV) (id : Int) : (getO l id = -1 ∧ getK0 (l.map (·.k)) id = oneZ 0) ∨ ∃ (k : Nat) (h : k < l.length), getO l id = (k : Int) ∧ getK0 (l.map (·.k)) id = l[k].k := by
 unfold getO
 cases h : l.findIdx? (fun y => decide (y.k.id = id)) with
 | none =>
  rw [List.findIdx?_eq_none_iff] at h
  refine .inl ⟨rfl, ?_⟩
  unfold getK0
  rw [List.find?_eq_none.2 fun q hq => by
   obtain ⟨y, hy, rfl⟩ := List.mem_map.1 hq
   simpa using h y hy]
  rfl
 | some k =>
  rw [List.findIdx?_eq_some_iff_getElem] at h
  obtain ⟨hk, h1, h2⟩ := h
  refine .inr ⟨k, hk, rfl, ?_⟩
  unfold getK0
  have e : l = l.take k ++ l[k] :: l.drop (k + 1) := by rw [List.getElem_cons_drop, List.take_append_drop]
  have hb : ∀ y ∈ l.take k, y.k.id ≠ id := fun y hy => by
   obtain ⟨j, hj, rfl⟩ := List.getElem_of_mem hy
   rw [List.length_take] at hj
   rw [List.getElem_take]
   simpa using h2 j (by omega)
  generalize l[k] = y at e h1 ⊢
  rw [e, List.map_append, List.find?_append]
  rw [List.find?_eq_none.2 fun q hq => by
   obtain ⟨y, hy, rfl⟩ := List.mem_map.1 hq
   simpa using hb y hy]
  rw [List.map_cons, List.find?_cons, h1]
  rfl
abbrev oneRow (k : OneK) (v : Value) : Nat → Value := eightV (.int .i64 k.id) v (.bool k.edited) (.bool k.removed) (.bool k.created) (.bool k.moved) (.int .i64 k.parent) (.string (bstr k.name))
set_option maxHeartbeats 8000000 in
set_option maxRecDepth 100000 in
theorem yy333 (A : Option Addr) (c : Nat) (bs : List OneV) (a : ActV) (hl : bs.length ≤ maxLen) (hg : ∀ y ∈ bs, y.Good) (hn : Bytes a.name) (w : World) (hA : OnesAt w A bs) :
  Calls Tryz.prog 17 #[.agg (yy0 a).toArray, .slice A bs.length c] w fun e w' => e = .returned (.int .i64 (rWhy a (bs.map (·.k)))) ∧ Below w.heap.size w w' := by
 rw [rWhy_f]
 have HA := xh hA
 have GG := xh (fun (i : Int) v (h : Below w.heap.size w v) => yy332 A c bs i hl v (hA.below h))
 obtain ⟨ak, ai, ap, an, ad, aA, aC, ao⟩ := a
 simp only at hn ⊢
 have K1 := xh (yy386 bs ai)
 have K2 := xh (yy386 bs ap)
 have HNM : Hid (∀ y ∈ bs, Bytes y.k.name) := xh (fun y hy => (hg y hy).2.2.1)
 have HNN := xh hn
 unfold maxLen at hl
 clear hA hg hn
 obtain ⟨X, HX⟩ : ∃ X, Hid (getK0 (bs.map (·.k)) ai = X) := ⟨_, xh rfl⟩
 obtain ⟨Y, HY⟩ : ∃ Y, Hid (getK0 (bs.map (·.k)) ap = Y) := ⟨_, xh rfl⟩
 rw [HX.out, HY.out]
 obtain ⟨n1, HN1⟩ : ∃ n, Hid (getO bs ai = n) := ⟨_, xh rfl⟩
 obtain ⟨n2, HN2⟩ : ∃ n, Hid (getO bs ap = n) := ⟨_, xh rfl⟩
 rw [HX.out, HN1.out] at K1
 rw [HY.out, HN2.out] at K2
 obtain ⟨g, hgg⟩ : ∃ g, g = w.heap.size := ⟨_, rfl⟩
 have HR1 := xh (((yy53 w 26 (.int .i64 ak) (.int .i64 ai) (.int .i64 ap) (.string (bstr an)) (.bool ad) (.slice aA ao.length aC)).alloc (Obj.cells #[.int .i64 0, .slice none 0 0, .bool false, .bool false, .bool false, .bool false, .int .i64 0, .string { data := #[] }] 55)).alloc (Obj.cells #[.int .i64 0, .slice none 0 0, .bool false, .bool false, .bool false, .bool false, .int .i64 0, .string { data := #[] }] 55))
 have HR2 := xh ((yy24 (w.alloc (.cells #[.int .i64 ak, .int .i64 ai, .int .i64 ap, .string (bstr an), .bool ad, .slice aA ao.length aC] 26)) 55 (.int .i64 0) (.slice none 0 0) (.bool false) (.bool false) (.bool false) (.bool false) (.int .i64 0) (.string { data := #[] })).alloc (Obj.cells #[.int .i64 0, .slice none 0 0, .bool false, .bool false, .bool false, .bool false, .int .i64 0, .string { data := #[] }] 55))
 have HR3 := xh (yy24 ((w.alloc (.cells #[.int .i64 ak, .int .i64 ai, .int .i64 ap, .string (bstr an), .bool ad, .slice aA ao.length aC] 26)).alloc (.cells #[.int .i64 0, .slice none 0 0, .bool false, .bool false, .bool false, .bool false, .int .i64 0, .string { data := #[] }] 55)) 55 (.int .i64 0) (.slice none 0 0) (.bool false) (.bool false) (.bool false) (.bool false) (.int .i64 0) (.string { data := #[] }))
 have HB1 : Hid (Below w.heap.size w _) := xh ((((Below.refl w.heap.size w).alloc (Nat.le_refl _) (.cells #[.int .i64 ak, .int .i64 ai, .int .i64 ap, .string (bstr an), .bool ad, .slice aA ao.length aC] 26)).alloc (by simp) (.cells #[.int .i64 0, .slice none 0 0, .bool false, .bool false, .bool false, .bool false, .int .i64 0, .string { data := #[] }] 55)).alloc (by simp; omega) (.cells #[.int .i64 0, .slice none 0 0, .bool false, .bool false, .bool false, .bool false, .int .i64 0, .string { data := #[] }] 55))
 rw [World.size_alloc, World.size_alloc, ← hgg] at HR3
 rw [World.size_alloc, ← hgg] at HR2
 rw [← hgg] at HR1 HB1
 have HG := xh hgg
 clear hgg
 obtain ⟨W0, HW0⟩ : ∃ x, Hid ((((w.alloc (.cells #[.int .i64 ak, .int .i64 ai, .int .i64 ap, .string (bstr an), .bool ad, .slice aA ao.length aC] 26)).alloc (.cells #[.int .i64 0, .slice none 0 0, .bool false, .bool false, .bool false, .bool false, .int .i64 0, .string { data := #[] }] 55)).alloc (.cells #[.int .i64 0, .slice none 0 0, .bool false, .bool false, .bool false, .bool false, .int .i64 0, .string { data := #[] }] 55)) = x) := ⟨_, xh rfl⟩
 rw [HW0.out] at HR1 HR2 HR3 HB1
 obtain ⟨gx, HGX⟩ : ∃ x, Hid (x = g + 1) := ⟨_, xh rfl⟩
 obtain ⟨gy, HGY⟩ : ∃ x, Hid (x = gx + 1) := ⟨_, xh rfl⟩
 rw [← HGX.out] at HR2 HR3
 rw [← HGY.out] at HR3
 have hxg : g ≠ gx := by have := HGX.out; omega
 have hyx : gy ≠ gx := by have := HGY.out; omega
 have hyg : g ≠ gy := by have := HGX.out; have := HGY.out; omega
 have hlx : g ≤ gx := by have := HGX.out; omega
 have hly : g ≤ gy := by have := HGX.out; have := HGY.out; omega
 have HNE := xh (And.intro hxg (And.intro hyx (And.intro hyg (And.intro hlx hly))))
 clear hxg hyx hyg hlx hly
 unfold yy0
 rw [← HG.out] at GG
 rw [← HG.out]
 go_enter Tryz.func17, Tryz.ntmps17
 go_upto_region 2 with fail
 rw [← HG.out, HW0.out, ← HGX.out, ← HGY.out]
 obtain ⟨y0, y1, y2, y3, y4, y5⟩ := yy10 HR1.out
 go_wp2_with fail
 refine (GG.out _ _ HB1.out).mono ?_
 rintro e v ⟨rfl, hb⟩
 rw [HN1.out]
 replace HR1 := xh (HR1.out.of_block (hb.block _ HR1.out.lt))
 replace HR2 := xh (HR2.out.of_block (hb.block _ HR2.out.lt))
 replace HR3 := xh (HR3.out.of_block (hb.block _ HR3.out.lt))
 replace HB1 : Hid (Below g w v) := xh (HB1.out.trans (hb.mono (by rw [HG.out]; exact HB1.out.size)))
 clear y0 y1 y2 y3 y4 y5 hb HW0
 go_upto_if 13 with fail
 go_cut [] from 14 to 17 (fun wc => ∃ v1, wc.rowIs gx 55 8 (oneRow X v1) ∧ wc.rowIs g 26 6 (sixV (.int .i64 ak) (.int .i64 ai) (.int .i64 ap) (.string (bstr an)) (.bool ad) (.slice aA ao.length aC)) ∧ wc.rowIs gy 55 8 (oneRow (oneZ 0) (.slice none 0 0)) ∧ Below g w wc)
 case first =>
  rcases K1.out with ⟨e1, e2⟩ | ⟨k, hk, e1, e2⟩
  ·have HE := xh e2
   subst e1
   clear e2
   go_wp2
   go_meet
   case rel => exact ⟨_, by rw [HE.out]; exact HR2.out, HR1.out, HR3.out, HB1.out⟩
  ·have HE := xh e2
   subst e1
   clear e2
   have hAv := HA.out.below (by rw [← HG.out]; exact HB1.out)
   obtain ⟨b1, o1, rfl, _⟩ := hAv.form (by omega)
   obtain ⟨x0, x1, x2, x3, x4, x5, x6, x7⟩ := hAv.at_ hk
   have hkI : (k : Int) < (bs.length : Int) := by omega
   have hk0 : (0 : Int) ≤ (k : Int) := by omega
   clear hAv
   generalize bs[k] = y at x0 x1 x2 x3 x4 x5 x6 x7 HE
   have HEQ : Hid (y.k = X) := xh HE.out.symm
   go_upto_region 4 with fail
   obtain ⟨⟨a0, f0⟩, ⟨a1, f1⟩, ⟨a2, f2⟩, ⟨a3, f3⟩, ⟨a4, f4⟩, ⟨a5, f5⟩, ⟨a6, f6⟩, ⟨a7, f7⟩, hres⟩ := yy33 HR2.out (.int .i64 y.k.id) (.slice y.opsA y.k.ops.length y.opsC) (.bool y.k.edited) (.bool y.k.removed) (.bool y.k.created) (.bool y.k.moved) (.int .i64 y.k.parent) (.string (bstr y.k.name))
   clear hres
   go_wp2
   go_meet
   case rel =>
    rw [← HEQ.out]
    exact ⟨_, (yy33 HR2.out (.int .i64 y.k.id) (.slice y.opsA y.k.ops.length y.opsC) (.bool y.k.edited) (.bool y.k.removed) (.bool y.k.created) (.bool y.k.moved) (.int .i64 y.k.parent) (.string (bstr y.k.name))).2.2.2.2.2.2.2.2, yy64 HR1.out HNE.out.1 (.int .i64 y.k.id) (.slice y.opsA y.k.ops.length y.opsC) (.bool y.k.edited) (.bool y.k.removed) (.bool y.k.created) (.bool y.k.moved) (.int .i64 y.k.parent) (.string (bstr y.k.name)), yy64 HR3.out HNE.out.2.1 (.int .i64 y.k.id) (.slice y.opsA y.k.ops.length y.opsC) (.bool y.k.edited) (.bool y.k.removed) (.bool y.k.created) (.bool y.k.moved) (.int .i64 y.k.parent) (.string (bstr y.k.name)), yy38 HB1.out HNE.out.2.2.2.1 (.int .i64 y.k.id) (.slice y.opsA y.k.ops.length y.opsC) (.bool y.k.edited) (.bool y.k.removed) (.bool y.k.created) (.bool y.k.moved) (.int .i64 y.k.parent) (.string (bstr y.k.name))⟩
 case rest =>
  clear HR1 HR2 HR3 HB1
  obtain ⟨v1, hr2, hr1, hr3, hb⟩ := hcut
  have HR1 := xh hr1
  have HR2 := xh hr2
  have HR3 := xh hr3
  have HB1 := xh hb
  clear hr1 hr2 hr3 hb
  obtain ⟨bb, HBB⟩ : ∃ bb : Bool, Hid (bb = true ↔ (ak = 1 ∨ ak = 3) ∧ 0 ≤ n2) := ⟨decide ((ak = 1 ∨ ak = 3) ∧ 0 ≤ n2), xh (by simp)⟩
  go_upto_region 5 with fail
  go_cut [32] from 18 to 32 (fun s32 wx => s32 = .bool bb ∧ wx.rowIs gx 55 8 (oneRow X v1) ∧ wx.rowIs g 26 6 (sixV (.int .i64 ak) (.int .i64 ai) (.int .i64 ap) (.string (bstr an)) (.bool ad) (.slice aA ao.length aC)) ∧ wx.rowIs gy 55 8 (oneRow (oneZ 0) (.slice none 0 0)) ∧ Below g w wx)
  case first =>
   obtain ⟨y0, y1, y2, y3, y4, y5⟩ := yy10 HR1.out
   by_cases i1 : ak = 1
   ·have HE : Hid (bb = decide (0 ≤ n2)) := xh (by rw [Bool.eq_iff_iff, HBB.out]; simp [i1])
    have d1 : (ak == 1) = true := by rw [i1]; rfl
    clear i1
    go_wp2_with fail
    refine (GG.out _ _ HB1.out).mono ?_
    rintro e v2 ⟨rfl, hb⟩
    rw [HN2.out]
    have HR1 := xh (HR1.out.of_block (hb.block _ HR1.out.lt))
    have HR2 := xh (HR2.out.of_block (hb.block _ HR2.out.lt))
    have HR3 := xh (HR3.out.of_block (hb.block _ HR3.out.lt))
    have HB1 : Hid (Below g w v2) := xh (HB1.out.trans (hb.mono (by rw [HG.out]; exact HB1.out.size)))
    clear y0 y1 y2 y3 y4 y5 hb
    go_wp2
    go_meet
    case rel => exact ⟨by rw [HE.out], HR2.out, HR1.out, HR3.out, HB1.out⟩
   have d1 : (ak == 1) = false := beq_eq_false_iff_ne.2 i1
   by_cases i3 : ak = 3
   ·have HE : Hid (bb = decide (0 ≤ n2)) := xh (by rw [Bool.eq_iff_iff, HBB.out]; simp [i3])
    have d3 : (ak == 3) = true := by rw [i3]; rfl
    clear i1 i3
    go_wp2_with fail
    refine (GG.out _ _ HB1.out).mono ?_
    rintro e v2 ⟨rfl, hb⟩
    rw [HN2.out]
    have HR1 := xh (HR1.out.of_block (hb.block _ HR1.out.lt))
    have HR2 := xh (HR2.out.of_block (hb.block _ HR2.out.lt))
    have HR3 := xh (HR3.out.of_block (hb.block _ HR3.out.lt))
    have HB1 : Hid (Below g w v2) := xh (HB1.out.trans (hb.mono (by rw [HG.out]; exact HB1.out.size)))
    clear y0 y1 y2 y3 y4 y5 hb
    go_wp2
    go_meet
    case rel => exact ⟨by rw [HE.out], HR2.out, HR1.out, HR3.out, HB1.out⟩
   have HE : Hid (bb = false) := xh (by rw [Bool.eq_false_iff]; intro h; rcases (HBB.out.1 h).1 with g | g; exact i1 g; exact i3 g)
   have d3 : (ak == 3) = false := beq_eq_false_iff_ne.2 i3
   clear i1 i3
   go_wp2
   go_meet
   case rel => exact ⟨by rw [HE.out], HR2.out, HR1.out, HR3.out, HB1.out⟩
  case rest =>
  clear HR1 HR2 HR3 HB1
  obtain ⟨rfl, hr2, hr1, hr3, hb⟩ := hcut
  have HR1 := xh hr1
  have HR2 := xh hr2
  have HR3 := xh hr3
  have HB1 := xh hb
  clear hr1 hr2 hr3 hb
  go_upto_if 32 with fail
  go_cut [] from 33 to 39 (fun wx => ∃ Z v2, ((ak = 1 ∨ ak = 3) → Z.removed = Y.removed) ∧ wx.rowIs gx 55 8 (oneRow X v1) ∧ wx.rowIs g 26 6 (sixV (.int .i64 ak) (.int .i64 ai) (.int .i64 ap) (.string (bstr an)) (.bool ad) (.slice aA ao.length aC)) ∧ wx.rowIs gy 55 8 (oneRow Z v2) ∧ Below g w wx)
  case first =>
   cases bb with
   | false =>
    go_wp2
    go_meet
    case rel =>
     refine ⟨oneZ 0, _, fun h => ?_, HR2.out, HR1.out, HR3.out, HB1.out⟩
     rcases K2.out with ⟨_, e2⟩ | ⟨k, hk, e1, _⟩
     ·rw [e2]
     ·exact absurd (HBB.out.2 ⟨h, by omega⟩) (by simp)
   | true =>
    rcases K2.out with ⟨e1, _⟩ | ⟨k, hk, e1, e2⟩
    ·have := (HBB.out.1 rfl).2
     omega
    have HE := xh e2
    have HK := xh e1
    have hAv := HA.out.below (by rw [← HG.out]; exact HB1.out)
    obtain ⟨b1, o1, rfl, _⟩ := hAv.form (by omega)
    have hkI : (k : Int) < (bs.length : Int) := by omega
    have hk0 : (0 : Int) ≤ (k : Int) := by omega
    clear e1 e2 hAv
    obtain ⟨y0, y1, y2, y3, y4, y5⟩ := yy10 HR1.out
    go_upto_region 6 with fail
    go_wp2_with fail
    refine (GG.out _ _ HB1.out).mono ?_
    rintro e v2 ⟨rfl, hb⟩
    rw [HN2.out, HK.out]
    have HR1 := xh (HR1.out.of_block (hb.block _ HR1.out.lt))
    have HR2 := xh (HR2.out.of_block (hb.block _ HR2.out.lt))
    have HR3 := xh (HR3.out.of_block (hb.block _ HR3.out.lt))
    have HB1 : Hid (Below g w v2) := xh (HB1.out.trans (hb.mono (by rw [HG.out]; exact HB1.out.size)))
    clear y0 y1 y2 y3 y4 y5 hb
    obtain ⟨x0, x1, x2, x3, x4, x5, x6, x7⟩ := (HA.out.below (by rw [← HG.out]; exact HB1.out)).at_ hk
    generalize bs[k] = y at x0 x1 x2 x3 x4 x5 x6 x7 HE
    obtain ⟨⟨a0, f0⟩, ⟨a1, f1⟩, ⟨a2, f2⟩, ⟨a3, f3⟩, ⟨a4, f4⟩, ⟨a5, f5⟩, ⟨a6, f6⟩, ⟨a7, f7⟩, hres⟩ := yy33 HR3.out (.int .i64 y.k.id) (.slice y.opsA y.k.ops.length y.opsC) (.bool y.k.edited) (.bool y.k.removed) (.bool y.k.created) (.bool y.k.moved) (.int .i64 y.k.parent) (.string (bstr y.k.name))
    clear hres
    go_wp2
    go_meet
    case rel => exact ⟨y.k, _, fun _ => by rw [HE.out], yy64 HR2.out HNE.out.2.1.symm (.int .i64 y.k.id) (.slice y.opsA y.k.ops.length y.opsC) (.bool y.k.edited) (.bool y.k.removed) (.bool y.k.created) (.bool y.k.moved) (.int .i64 y.k.parent) (.string (bstr y.k.name)), yy64 HR1.out HNE.out.2.2.1 (.int .i64 y.k.id) (.slice y.opsA y.k.ops.length y.opsC) (.bool y.k.edited) (.bool y.k.removed) (.bool y.k.created) (.bool y.k.moved) (.int .i64 y.k.parent) (.string (bstr y.k.name)), (yy33 HR3.out (.int .i64 y.k.id) (.slice y.opsA y.k.ops.length y.opsC) (.bool y.k.edited) (.bool y.k.removed) (.bool y.k.created) (.bool y.k.moved) (.int .i64 y.k.parent) (.string (bstr y.k.name))).2.2.2.2.2.2.2.2, yy38 HB1.out HNE.out.2.2.2.2 (.int .i64 y.k.id) (.slice y.opsA y.k.ops.length y.opsC) (.bool y.k.edited) (.bool y.k.removed) (.bool y.k.created) (.bool y.k.moved) (.int .i64 y.k.parent) (.string (bstr y.k.name))⟩
  case rest =>
  clear HR1 HR2 HR3 HB1
  obtain ⟨Z, v2, hz, hr2, hr1, hr3, hb⟩ := hcut
  have HZ := xh hz
  have HR1 := xh hr1
  have HR2 := xh hr2
  have HR3 := xh hr3
  have HB1 := xh hb
  have HXN : Hid (Bytes X.name) := xh (by
   rcases K1.out with ⟨_, e⟩ | ⟨k, hk, _, e⟩
   ·rw [e]; exact ⟨fun x hx => (by cases hx), Nat.zero_le _⟩
   ·rw [e]; exact HNM.out _ (List.getElem_mem hk))
  clear hz hr1 hr2 hr3 hb K1 K2 HX GG
  obtain ⟨y0, y1, y2, y3, y4, y5⟩ := yy10 HR1.out
  obtain ⟨xid, xo, xe, xr, xc, xm, xp, xn⟩ := X
  obtain ⟨zid, zo, ze, zr, zc, zm, zp, zn⟩ := Z
  simp only at HZ HXN
  obtain ⟨x0, x1, x2, x3, x4, x5, x6, x7⟩ := yy9 HR2.out
  obtain ⟨_, _, _, z3, _⟩ := yy9 HR3.out
  clear y1 y4 y5 x0 x1
  by_cases k4 : ak = 4
  ·obtain rfl : ak = 4 := k4
   cases xr with
   | true =>
    have HW : Hid (whyF 4 (⟨xid, xo, xe, true, xc, xm, xp, xn⟩ : OneK) Y.removed ap an = 12) := xh (by simp [whyF])
    go_wp2
    go_ret
    exact ⟨by rw [HW.out]; rfl, HB1.out⟩
   | false =>
    have HW : Hid (whyF 4 (⟨xid, xo, xe, false, xc, xm, xp, xn⟩ : OneK) Y.removed ap an = 0) := xh (by simp [whyF])
    go_wp2
    go_ret
    exact ⟨by rw [HW.out]; rfl, HB1.out⟩
  by_cases k2 : ak = 2
  ·obtain rfl : ak = 2 := k2
   cases xe with
   | true =>
    cases xm with
    | true =>
     cases xr with
     | true =>
      have HW : Hid (whyF 2 (⟨xid, xo, true, true, xc, true, xp, xn⟩ : OneK) Y.removed ap an = 0) := xh (by simp [whyF])
      go_wp2
      go_ret
      exact ⟨by rw [HW.out]; rfl, HB1.out⟩
     | false =>
      have HW : Hid (whyF 2 (⟨xid, xo, true, false, xc, true, xp, xn⟩ : OneK) Y.removed ap an = 13) := xh (by simp [whyF])
      go_wp2
      go_ret
      exact ⟨by rw [HW.out]; rfl, HB1.out⟩
    | false =>
     cases xr with
     | true =>
      have HW : Hid (whyF 2 (⟨xid, xo, true, true, xc, false, xp, xn⟩ : OneK) Y.removed ap an = 0) := xh (by simp [whyF])
      go_wp2
      go_ret
      exact ⟨by rw [HW.out]; rfl, HB1.out⟩
     | false =>
      have HW : Hid (whyF 2 (⟨xid, xo, true, false, xc, false, xp, xn⟩ : OneK) Y.removed ap an = 13) := xh (by simp [whyF])
      go_wp2
      go_ret
      exact ⟨by rw [HW.out]; rfl, HB1.out⟩
   | false =>
    cases xm with
    | true =>
     cases xr with
     | true =>
      have HW : Hid (whyF 2 (⟨xid, xo, false, true, xc, true, xp, xn⟩ : OneK) Y.removed ap an = 0) := xh (by simp [whyF])
      go_wp2
      go_ret
      exact ⟨by rw [HW.out]; rfl, HB1.out⟩
     | false =>
      have HW : Hid (whyF 2 (⟨xid, xo, false, false, xc, true, xp, xn⟩ : OneK) Y.removed ap an = 13) := xh (by simp [whyF])
      go_wp2
      go_ret
      exact ⟨by rw [HW.out]; rfl, HB1.out⟩
    | false =>
     cases xr with
     | true =>
      have HW : Hid (whyF 2 (⟨xid, xo, false, true, xc, false, xp, xn⟩ : OneK) Y.removed ap an = 0) := xh (by simp [whyF])
      go_wp2
      go_ret
      exact ⟨by rw [HW.out]; rfl, HB1.out⟩
     | false =>
      have HW : Hid (whyF 2 (⟨xid, xo, false, false, xc, false, xp, xn⟩ : OneK) Y.removed ap an = 0) := xh (by simp [whyF])
      go_wp2
      go_ret
      exact ⟨by rw [HW.out]; rfl, HB1.out⟩
  by_cases k3 : ak = 3
  ·obtain rfl : ak = 3 := k3
   cases xr with
   | true =>
    have HW : Hid (whyF 3 (⟨xid, xo, xe, true, xc, xm, xp, xn⟩ : OneK) Y.removed ap an = 12) := xh (by simp [whyF])
    go_wp2
    go_ret
    exact ⟨by rw [HW.out]; rfl, HB1.out⟩
   | false =>
    cases xm with
    | false =>
     cases zr with
     | true =>
      have HW : Hid (whyF 3 (⟨xid, xo, xe, false, xc, false, xp, xn⟩ : OneK) Y.removed ap an = 12) := xh (by rw [← HZ.out (by simp)]; simp [whyF])
      go_wp2
      go_ret
      exact ⟨by rw [HW.out]; rfl, HB1.out⟩
     | false =>
      have HW : Hid (whyF 3 (⟨xid, xo, xe, false, xc, false, xp, xn⟩ : OneK) Y.removed ap an = 0) := xh (by rw [← HZ.out (by simp)]; simp [whyF])
      go_wp2
      go_ret
      exact ⟨by rw [HW.out]; rfl, HB1.out⟩
    | true =>
     by_cases hp : xp = ap
     ·obtain rfl : xp = ap := hp
      by_cases hnm : xn = an
      ·obtain rfl : xn = an := hnm
       cases zr with
       | true =>
        have HW : Hid (whyF 3 (⟨xid, xo, xe, false, xc, true, xp, xn⟩ : OneK) Y.removed xp xn = 12) := xh (by rw [← HZ.out (by simp)]; simp [whyF])
        go_wp2
        go_ret
        exact ⟨by rw [HW.out]; rfl, HB1.out⟩
       | false =>
        have HW : Hid (whyF 3 (⟨xid, xo, xe, false, xc, true, xp, xn⟩ : OneK) Y.removed xp xn = 0) := xh (by rw [← HZ.out (by simp)]; simp [whyF])
        go_wp2
        go_ret
        exact ⟨by rw [HW.out]; rfl, HB1.out⟩
      ·have g1 : ((bstr xn).toList == (bstr an).toList) = false := bstr_neq fun h => hnm (bstr_inj _ _ HXN.out.1 HNN.out.1 h)
       have HNM2 := xh hnm
       clear hnm
       have HW : Hid (whyF 3 (⟨xid, xo, xe, false, xc, true, xp, xn⟩ : OneK) Y.removed xp an = 13) := xh (by simp [whyF, HNM2.out])
       go_wp2
       go_ret
       exact ⟨by rw [HW.out]; rfl, HB1.out⟩
     ·have g1 : (xp == ap) = false := beq_eq_false_iff_ne.2 hp
      have g2 : (xp != ap) = true := by simpa using hp
      have HNP := xh hp
      clear hp
      have HW : Hid (whyF 3 (⟨xid, xo, xe, false, xc, true, xp, xn⟩ : OneK) Y.removed ap an = 13) := xh (by simp [whyF, HNP.out])
      go_wp2
      go_ret
      exact ⟨by rw [HW.out]; rfl, HB1.out⟩
  by_cases k1 : ak = 1
  ·obtain rfl : ak = 1 := k1
   cases xc with
   | true =>
    have HW : Hid (whyF 1 (⟨xid, xo, xe, xr, true, xm, xp, xn⟩ : OneK) Y.removed ap an = 13) := xh (by simp [whyF])
    go_wp2
    go_ret
    exact ⟨by rw [HW.out]; rfl, HB1.out⟩
   | false =>
    cases zr with
    | true =>
     have HW : Hid (whyF 1 (⟨xid, xo, xe, xr, false, xm, xp, xn⟩ : OneK) Y.removed ap an = 12) := xh (by rw [← HZ.out (by simp)]; simp [whyF])
     go_wp2
     go_ret
     exact ⟨by rw [HW.out]; rfl, HB1.out⟩
    | false =>
     have HW : Hid (whyF 1 (⟨xid, xo, xe, xr, false, xm, xp, xn⟩ : OneK) Y.removed ap an = 0) := xh (by rw [← HZ.out (by simp)]; simp [whyF])
     go_wp2
     go_ret
     exact ⟨by rw [HW.out]; rfl, HB1.out⟩
  have d4 : (ak == 4) = false := beq_eq_false_iff_ne.2 k4
  have d2 : (ak == 2) = false := beq_eq_false_iff_ne.2 k2
  have d3 : (ak == 3) = false := beq_eq_false_iff_ne.2 k3
  have d1 : (ak == 1) = false := beq_eq_false_iff_ne.2 k1
  have HW : Hid (whyF ak ⟨xid, xo, xe, xr, xc, xm, xp, xn⟩ Y.removed ap an = 0) := xh (by unfold whyF; rw [if_neg k4, if_neg k2, if_neg k3, if_neg k1])
  clear k4 k2 k3 k1
  go_wp2
  go_ret
  exact ⟨by rw [HW.out]; rfl, HB1.out⟩
def nEf0 : Sched Nat := (.one 11 (.one 15 (.quiet 16 .done)))
def nEf1 : Sched Nat := (.one 4 nEf0)
def nEf : Sched Nat := (.quiet 1 (.quiet 2 (.quiet 3 (.quiet 5 (.quiet 6 (.quiet 7 (.quiet 8 (.quiet 9 (.quiet 12 (.quiet 13 (.quiet 14 (.two 0 (.two 4 (.one 10 nEf0) 10 nEf1) 10 (.one 0 nEf1)))))))))))))
def effN (l : List ActV) (k : Nat) : List Int := ((l.take k).map fun a => a.id).foldl tPut []
theorem yy624 {l : List ActV} {k : Nat} (hk : k < l.length) : effN l (k + 1) = tPut (effN l k) l[k].id := by
 unfold effN
 rw [List.take_succ_eq_append_getElem hk, List.map_append, List.foldl_append]
 rfl
theorem yy713 (l : List ActV) : effN l l.length = effIds l := by rw [effN, List.take_length]; rfl
set_option maxHeartbeats 16000000 in
set_option maxRecDepth 100000 in
theorem yy562 (B : Option Addr) (d : Nat) (l : List ActV) (hl : l.length ≤ 1048576) (hg : ∀ a ∈ l, a.Good) (w : World) (hB : ActsAt w B l) :
  Calls Tryz.prog 32 #[.slice B l.length d] w fun e w' => (∃ A c L, e = .returned (.slice A (List.length L) c) ∧ OnesAt w' A L ∧ L.map (·.k) = eff l ∧ ∀ y ∈ L, y.Good) ∧ Below w.heap.size w w' := by
 have HACT := xh hB
 have HG := xh hg
 clear hB hg
 go_enter Tryz.func32, Tryz.ntmps32
 go_wp2
 go_loopw [3, 4, 5] (fun s3 s4 s5 wr => ∃ (k : Nat) (P : List Int) (A3 : Option Addr) (c3 : Nat), k ≤ l.length ∧ s3 = .slice A3 P.length c3 ∧ s4 = .int .i64 (k : Int) ∧ s5 = s5 ∧ P.length ≤ k ∧ Hid (effN l k = P) ∧ Hid (OwnK wr w.heap.size A3 c3 P) ∧ Hid (Below w.heap.size w wr)) (fun _ s4 _ _ => l.length - (intOf s4).toNat)
 case atStart => exact ⟨0, [], none, 0, Nat.zero_le _, rfl, rfl, rfl, Nat.zero_le _, xh rfl, xh (OwnK.nil _ _), xh (Below.refl _ _)⟩
 case round =>
  obtain ⟨k, P, A3, c3, hk, rfl, rfl, _, hPl, HE, HOP, HBL⟩ := hrel
  obtain ⟨wj, hwj⟩ : ∃ x, x = wr := ⟨wr, rfl⟩
  subst hwj
  by_cases hlt : k < l.length
  ·obtain ⟨b, off, rfl, _⟩ := HACT.out.form (by omega)
   have hlI : (k : Int) < (l.length : Int) := by omega
   have HT : Hid (effN l (k + 1) = tPut P l[k].id) := xh (by rw [yy624 hlt, HE.out])
   have HV2 : Hid (∀ X : World, Below wj.heap.size wj X → X.cell? ⟨b, off + k * 6 + 1, none⟩ = some (.int .i64 l[k].id)) := xh (fun X h => ((HACT.out.below (HBL.out.trans (h.mono HBL.out.size))).at_ hlt).2.1)
   generalize l[k].id = x at HT HV2
   obtain ⟨q, HQ⟩ : ∃ q, Hid (tAt x P P.length = q) := ⟨_, xh rfl⟩
   have hq : q ≤ P.length := by rw [← HQ.out]; exact tAt_le _ _ _
   clear HE
   go_upto_block 2 with fail
   go_cut [5] from 16 to 65 (fun s5 wc => s5 = .int .i64 (q : Int) ∧ Hid (Below wj.heap.size wj wc))
   case first =>
    go_wp2_with fail
    go_loopw [5] (fun s5 wq => ∃ n : Nat, n ≤ P.length ∧ s5 = .int .i64 (n : Int) ∧ Hid (tAt x P n = q) ∧ Hid (Below wj.heap.size wj wq)) (fun s5 _ => (intOf s5).toNat)
    case atStart => exact ⟨P.length, Nat.le_refl _, rfl, HQ, xh (Below.refl _ _)⟩
    case round =>
     obtain ⟨n, hn, rfl, HN, HBQ⟩ := hrel
     have HBQD := xh (Below.drew HBQ.out)
     cases n with
     | zero =>
      have HQ0 : Hid (q = 0) := xh (by rw [← HN.out]; rfl)
      go_wp2_with fail
      refine wp_region_lit sc9 (by kernel_rfl) (by kernel_rfl) (fun _ _ d _ _ h => by cases d <;> exact h) ?_
      simp only [picked, sc9, xmc, xmn, xgs, xgz, xgd]
      repeat (first | (refine yy1 (by rfl) (fun K hK => ?_); go_big_quiet_op; refine hK _ ?_; clear hK K) | (refine yy3 (by rfl) ?_; simp only [Act.put, xsa, xsz, xss]) | (simp only [xb9, xb0, xb7, xb8, xb6, xb5, xb4, xb2, xb1, xb3]))
      refine yy25 ?_
      go_wp2
      go_meet
      case rel => exact ⟨by rw [HQ0.out], HBQD⟩
     | succ n =>
      have hnP : n < P.length := by omega
      obtain ⟨g1, o1, rfl, _⟩ := HOP.out.at_.form (by omega)
      have HV1 : Hid (∀ X : World, Below wj.heap.size wj X → X.cell? ⟨g1, o1 + n, none⟩ = some (.int .i64 P[n])) := xh (fun X h => (HOP.out.at_.below h).get hnP)
      have HY : Hid (x < P[n] → tAt x P (n + 1) = tAt x P n) := xh (fun h => yy642 hnP h)
      have HNo : Hid (¬ x < P[n] → tAt x P (n + 1) = n + 1) := xh (fun h => tAt_no hnP h)
      have d1 : decide ((0 : Int) < ((n + 1 : Nat) : Int)) = true := decide_eq_true (by omega)
      have d1n : decide (0 < n + 1) = true := decide_eq_true (by omega)
      have d1c : decide ((0 : Int) < (n : Int) + 1) = true := decide_eq_true (by omega)
      have b1 : (((n + 1 : Nat) : Int) == 0) = false := xn (by omega)
      have b1n : ((n : Int) + 1 == 0) = false := xn (by omega)
      have hnJ : ((n + 1 : Nat) : Int) - 1 = (n : Int) := by omega
      have hnK : (n : Int) < (P.length : Int) := by omega
      have hn0 : (0 : Int) ≤ (n : Int) := by omega
      generalize P[n] = pn at HV1 HY HNo
      by_cases hx : x < pn
      ·have HN2 : Hid (tAt x P n = q) := xh (by rw [← HY.out hx]; exact HN.out)
       have d2 : decide (x < pn) = true := decide_eq_true hx
       clear HY HNo HN hx
       go_wp2_with fail
       refine wp_region_lit sc9 (by kernel_rfl) (by kernel_rfl) (fun _ _ d _ _ h => by cases d <;> exact h) ?_
       simp only [picked, sc9, xmc, xmn, xgs, xgz, xgd]
       have q0 := fun e : Ext wr.drew => HV1.out e.val (HBQD.out.trans (e.property.mono HBQD.out.size))
       have q1 := fun e : Ext wr.drew => HV2.out e.val (HBQD.out.trans (e.property.mono HBQD.out.size))
       repeat (first | (refine yy1 (by rfl) (fun K hK => ?_); go_big_quiet_op; refine hK _ ?_; clear hK K) | (refine yy3 (by rfl) ?_; simp only [Act.put, xsa, xsz, xss]) | (simp only [d1, d1n, d1c, d2, xb9, xb0, xb7, xb8, xb6, xb5, xb4, xb2, xb1, xb3]))
       refine yy25 ?_
       go_wp2
       go_roundw
       case rel => exact ⟨n, by omega, by go_num, HN2, HBQD⟩
       case measure => simp [intOf]
      ·have HN2 : Hid (n + 1 = q) := xh (by rw [← HNo.out hx]; exact HN.out)
       have d2 : decide (x < pn) = false := decide_eq_false hx
       clear HY HNo HN hx
       go_wp2_with fail
       refine wp_region_lit sc9 (by kernel_rfl) (by kernel_rfl) (fun _ _ d _ _ h => by cases d <;> exact h) ?_
       simp only [picked, sc9, xmc, xmn, xgs, xgz, xgd]
       have q0 := fun e : Ext wr.drew => HV1.out e.val (HBQD.out.trans (e.property.mono HBQD.out.size))
       have q1 := fun e : Ext wr.drew => HV2.out e.val (HBQD.out.trans (e.property.mono HBQD.out.size))
       repeat (first | (refine yy1 (by rfl) (fun K hK => ?_); go_big_quiet_op; refine hK _ ?_; clear hK K) | (refine yy3 (by rfl) ?_; simp only [Act.put, xsa, xsz, xss]) | (simp only [d1, d1n, d1c, d2, xb9, xb0, xb7, xb8, xb6, xb5, xb4, xb2, xb1, xb3]))
       refine yy25 ?_
       go_wp2
       go_meet
       case rel => exact ⟨by rw [← HN2.out], HBQD⟩
   case rest =>
    obtain ⟨rfl, HBC⟩ := hcut
    obtain ⟨wy, hwy⟩ : ∃ y, y = wc := ⟨wc, rfl⟩
    subst hwy
    obtain ⟨nb, HEB⟩ : ∃ nb, Hid (((0 < q ∧ P[q - 1]? = some x) → nb = false) ∧ (¬ (0 < q ∧ P[q - 1]? = some x) → nb = true)) := by
     by_cases h : 0 < q ∧ P[q - 1]? = some x
     ·exact ⟨false, xh ⟨fun _ => rfl, fun g => absurd h g⟩⟩
     ·exact ⟨true, xh ⟨fun g => absurd g h, fun _ => rfl⟩⟩
    go_upto_region 8 with fail
    have HBCD := xh (Below.drew HBC.out)
    go_cut [49] from 16 to 65 (fun s49 wc => s49 = .bool nb ∧ wc = wy.drew)
    case first =>
     cases hq0 : q with
     | zero =>
      have HF := xh (HEB.out.2 (fun h => by omega))
      subst hq0
      refine wp_region_lit sc9 (by kernel_rfl) (by kernel_rfl) (fun _ _ d _ _ h => by cases d <;> exact h) ?_
      simp only [picked, sc9, xmc, xmn, xgs, xgz, xgd]
      repeat (first | (refine yy1 (by rfl) (fun K hK => ?_); go_big_quiet_op; refine hK _ ?_; clear hK K) | (refine yy3 (by rfl) ?_; simp only [Act.put, xsa, xsz, xss]) | (simp only [xb9, xb0, xb7, xb8, xb6, xb5, xb4, xb2, xb1, xb3]))
      refine yy25 ?_
      go_wp2
      go_meet
      case rel => exact ⟨by rw [HF.out], rfl⟩
     | succ n =>
      subst hq0
      have hnP : n < P.length := by omega
      obtain ⟨g1, o1, rfl, _⟩ := HOP.out.at_.form (by omega)
      have HV1 : Hid (∀ X : World, Below wj.heap.size wj X → X.cell? ⟨g1, o1 + n, none⟩ = some (.int .i64 P[n])) := xh (fun X h => (HOP.out.at_.below h).get hnP)
      have hgn : P[n + 1 - 1]? = some P[n] := List.getElem?_eq_getElem hnP
      have d1 : decide ((0 : Int) < ((n + 1 : Nat) : Int)) = true := decide_eq_true (by omega)
      have d1n : decide (0 < n + 1) = true := decide_eq_true (by omega)
      have d1c : decide ((0 : Int) < (n : Int) + 1) = true := decide_eq_true (by omega)
      have b1 : (((n + 1 : Nat) : Int) == 0) = false := xn (by omega)
      have b1n : ((n : Int) + 1 == 0) = false := xn (by omega)
      have hnJ : ((n + 1 : Nat) : Int) - 1 = (n : Int) := by omega
      have hnK : (n : Int) < (P.length : Int) := by omega
      have hn0 : (0 : Int) ≤ (n : Int) := by omega
      rw [hgn] at HEB
      clear hgn
      generalize P[n] = pn at HV1 HEB
      by_cases hx : pn = x
      ·have HF := xh (HEB.out.1 ⟨by omega, by rw [hx]⟩)
       have d2 : (pn != x) = false := by rw [hx]; simp
       clear hx HEB
       refine wp_region_lit sc9 (by kernel_rfl) (by kernel_rfl) (fun _ _ d _ _ h => by cases d <;> exact h) ?_
       simp only [picked, sc9, xmc, xmn, xgs, xgz, xgd]
       have q0 := fun e : Ext wy.drew => HV1.out e.val (HBCD.out.trans (e.property.mono HBCD.out.size))
       have q1 := fun e : Ext wy.drew => HV2.out e.val (HBCD.out.trans (e.property.mono HBCD.out.size))
       repeat (first | (refine yy1 (by rfl) (fun K hK => ?_); go_big_quiet_op; refine hK _ ?_; clear hK K) | (refine yy3 (by rfl) ?_; simp only [Act.put, xsa, xsz, xss]) | (simp only [b1, b1n, d2, xb9, xb0, xb7, xb8, xb6, xb5, xb4, xb2, xb1, xb3]))
       refine yy25 ?_
       go_wp2
       go_meet
       case rel => exact ⟨by rw [HF.out], rfl⟩
      ·have HF := xh (HEB.out.2 (fun h => hx (by have := h.2; injection this)))
       have d2 : (pn != x) = true := by simpa using hx
       clear hx HEB
       refine wp_region_lit sc9 (by kernel_rfl) (by kernel_rfl) (fun _ _ d _ _ h => by cases d <;> exact h) ?_
       simp only [picked, sc9, xmc, xmn, xgs, xgz, xgd]
       have q0 := fun e : Ext wy.drew => HV1.out e.val (HBCD.out.trans (e.property.mono HBCD.out.size))
       have q1 := fun e : Ext wy.drew => HV2.out e.val (HBCD.out.trans (e.property.mono HBCD.out.size))
       repeat (first | (refine yy1 (by rfl) (fun K hK => ?_); go_big_quiet_op; refine hK _ ?_; clear hK K) | (refine yy3 (by rfl) ?_; simp only [Act.put, xsa, xsz, xss]) | (simp only [b1, b1n, d2, xb9, xb0, xb7, xb8, xb6, xb5, xb4, xb2, xb1, xb3]))
       refine yy25 ?_
       go_wp2
       go_meet
       case rel => exact ⟨by rw [HF.out], rfl⟩
    case rest =>
     obtain ⟨rfl, rfl⟩ := hcut
     have HBJ : Hid (Below w.heap.size w wy.drew) := xh (HBL.out.trans (HBCD.out.mono HBL.out.size))
     have HOPY := xh (HOP.out.below HBCD.out)
     cases nb with
     | false =>
      have HP : Hid (tPut P x = P) := xh (by
       unfold tPut
       rw [HQ.out]
       by_cases h : 0 < q ∧ P[q - 1]? = some x
       ·exact if_pos h
       ·exact absurd (HEB.out.2 h) (by simp))
      go_wp2
      go_roundw
      case rel => exact ⟨k + 1, P, A3, c3, by omega, rfl, by go_num, trivial, by omega, xh (HT.out.trans HP.out), HOPY, HBJ⟩
      case measure => simp [intOf]; omega
     | true =>
      have HP : Hid (tPut P x = (P.take q ++ [x]) ++ P.drop q) := xh (by
       unfold tPut
       rw [HQ.out]
       by_cases h : 0 < q ∧ P[q - 1]? = some x
       ·exact absurd (HEB.out.1 h) (by simp)
       ·exact if_neg h)
      have HT2 : Hid (effN l (k + 1) = (P.take q ++ [x]) ++ P.drop q) := xh (HT.out.trans HP.out)
      have HPL : Hid (((P.take q ++ [x]) ++ P.drop q).length = P.length + 1) := xh (by simp; omega)
      generalize wy.drew = wx at HBJ HOPY HBCD ⊢
      have hcap := HOPY.out.cap
      have cut1 : ∀ w : World, (Instr.slice 83 (.slice A3 P.length c3) none (some (.int .i64 (q : Int))) none).run Tryz.prog w = .ok (.slice (yy187 A3 c3) (P.take q).length c3) w := fun w => by
       rw [show (P.take q).length = q from by rw [List.length_take]; omega]
       exact yy443 A3 P.length c3 q (by omega) w
      have cut2 : ∀ w : World, (Instr.slice 83 (.slice A3 P.length c3) (some (.int .i64 (q : Int))) none none).run Tryz.prog w = .ok (.slice (numLow A3 q c3) (P.drop q).length (c3 - q)) w := fun w => by
       rw [show (P.drop q).length = P.length - q from by rw [List.length_drop]]
       exact yy510 A3 P.length c3 q hq w
      have HM1 : Hid (∀ v : World, NumsAt v A3 P → NumsAt v (yy187 A3 c3) (P.take q)) := xh (fun v h => h.high c3 q)
      have HM2 : Hid (∀ v : World, NumsAt v A3 P → NumsAt v (numLow A3 q c3) (P.drop q)) := xh (fun v h => h.low c3 q (by omega))
      have HLEN : Hid ((P.take q).length + (P.drop q).length ≤ 4194304) := xh (by rw [List.length_take, List.length_drop]; omega)
      generalize P.take q = m1 at HM1 cut1 HT2 HPL HLEN
      generalize P.drop q = m2 at HM2 cut2 HT2 HPL HLEN
      generalize yy187 A3 c3 = B1_ at HM1 cut1
      generalize numLow A3 q c3 = B2_ at HM2 cut2
      go_upto_region 9 with fail
      have HWR : Hid (NumsAt wx.drew A3 P) := xh (HOPY.out.at_.drew)
      have HZ : Hid (wx.drew.cell? ⟨b, off + k * 6 + 1, none⟩ = some (.int .i64 x)) := xh (HV2.out _ (Below.drew HBCD.out))
      have HBD : Hid (Below w.heap.size w wx.drew) := xh (Below.drew HBJ.out)
      have HSZ : Hid (wx.heap.size = wx.drew.heap.size) := xh rfl
      have HBX : Hid (Below wx.heap.size wx wx.drew) := xh (Below.drew (Below.refl _ _))
      refine Sched.yy589 (some wx.heap.size) nEf (by kernel_rfl) (by kernel_rfl) (fun _ _ d _ _ h => by cases d <;> exact h) ?_
      simp only [nEf, nEf1, nEf0, Sched.picked, List.getElem?_cons_succ, List.getElem?_cons_zero, Option.getD_some]
      have hsd : wx.heap.size = wx.drew.heap.size := rfl
      rw [hsd]
      generalize wx.drew = wd at HWR HBD HZ HBX HSZ ⊢
      have n0 := fun e : ExtB (some wd.heap.size) wd => (e.property.cell (World.block_lt_of_cell? _ _ HZ.out)).trans HZ.out
      repeat (first | (refine Sched.yy733 (by rfl) (fun K hK => ?_); go_big_quiet_op; refine hK _ ?_; clear hK K) | (refine Sched.yy568 (by rfl) ?_; simp only [Act.put, xsa, xsz, xss]))
      clear n0
      have HB : Hid (Below wd.heap.size wd wd) := xh (Below.refl _ _)
      refine Sched.walk_two ?_ ?_
      ·refine Sched.walk_one (by rfl) (fun K hK => ?_)
       go_simp
       have HO : Hid (OwnK ((wd).alloc (.cells #[] 3)) wd.heap.size (some ⟨wd.heap.size, 0, none⟩) 0 []) := by
        have h := OwnK.empty (B := wd.heap.size) wd HB.out.size
        rw [show (wd).heap.size = wd.heap.size from rfl] at h
        exact xh h
       refine hK _ _ ((Below.refl _ _).alloc HB.out.size _) ?_
       replace HB : Hid (Below wd.heap.size wd ((wd).alloc (.cells #[] 3))) := xh (HB.out.alloc HB.out.size _)
       clear hK K
       try simp only [Act.put, xsa, xsz, xss]
       refine Sched.walk_two ?_ ?_
       ·refine Sched.walk_one (by rfl) (fun K hK => ?_)
        refine yy41 (.tmp 50) (.tmp 53) rfl HO.out HB.out.size c3 (HM1.out _ (HWR.out.below HB.out)) (by have := HLEN.out; simp; omega) rfl rfl ?_
        intro P1 r1 y1 hown hb hlies
        refine hK _ _ hb ?_
        replace HB : Hid (Below wd.heap.size wd y1) := xh (HB.out.trans hb)
        replace HO := xh hown
        clear hK K hown hb hlies
        try simp only [Act.put, xsa, xsz, xss]
        refine Sched.walk_one (by rfl) (fun K hK => ?_)
        go_simp
        have HL : Hid (NumsAt ((y1).alloc (.cells #[.int .i64 x] 3)) (some ⟨y1.heap.size, 0, none⟩) [x]) := xh (yy509 y1 x _ rfl)
        replace HO := xh (HO.out.alloc (.cells #[.int .i64 x] 3))
        refine hK _ _ ((Below.refl _ _).alloc HB.out.size _) ?_
        replace HB : Hid (Below wd.heap.size wd ((y1).alloc (.cells #[.int .i64 x] 3))) := xh (HB.out.alloc HB.out.size _)
        clear hK K
        try simp only [Act.put, xsa, xsz, xss]
        refine Sched.walk_one (by rfl) (fun K hK => ?_)
        refine yy41 (.tmp 54) (.tmp 60) rfl HO.out HB.out.size 1 HL.out (by have := HLEN.out; simp; omega) rfl rfl ?_
        intro P2 r2 y2 hown hb hlies
        refine hK _ _ hb ?_
        replace HB : Hid (Below wd.heap.size wd y2) := xh (HB.out.trans hb)
        replace HO := xh hown
        clear hK K hown hb hlies
        try simp only [Act.put, xsa, xsz, xss]
        refine Sched.walk_one (by rfl) (fun K hK => ?_)
        refine yy41 (.tmp 61) (.tmp 64) rfl HO.out HB.out.size (c3 - q) (HM2.out _ (HWR.out.below HB.out)) (by have := HLEN.out; simp; omega) rfl rfl ?_
        intro P3 r3 y3 hown hb hlies
        refine hK _ _ hb ?_
        replace HB : Hid (Below wd.heap.size wd y3) := xh (HB.out.trans hb)
        replace HO := xh hown
        clear hK K hown hb hlies
        try simp only [Act.put, xsa, xsz, xss]
        repeat (first | (refine Sched.yy733 (by rfl) (fun K hK => ?_); go_big_quiet_op; refine hK _ ?_; clear hK K) | (refine Sched.yy568 (by rfl) ?_; simp only [Act.put, xsa, xsz, xss]))
        refine Sched.walk_done ?_
        have HBXX := xh (HBX.out.trans (HB.out.mono HBX.out.size))
        have HB4 := xh (HBJ.out.trans (HBXX.out.mono HBJ.out.size))
        have HO4 := xh (yy36 HO.out HBD.out.size)
        have hpl := HPL.out
        go_wp2_with fail
        go_roundw
        case rel => exact ⟨k + 1, (m1 ++ [x]) ++ m2, _, _, by omega, rfl, by go_num, trivial, by omega, HT2, HO4, HB4⟩
        case measure => simp [intOf]; omega
       ·refine Sched.walk_one (by rfl) (fun K hK => ?_)
        go_simp
        have HL : Hid (NumsAt ((((wd).alloc (.cells #[] 3))).alloc (.cells #[.int .i64 x] 3)) (some ⟨(wd.heap.size + 1), 0, none⟩) [x]) := xh (yy509 ((wd).alloc (.cells #[] 3)) x _ (by simp))
        replace HO := xh (HO.out.alloc (.cells #[.int .i64 x] 3))
        refine hK _ _ ((Below.refl _ _).alloc HB.out.size _) ?_
        replace HB : Hid (Below wd.heap.size wd ((((wd).alloc (.cells #[] 3))).alloc (.cells #[.int .i64 x] 3))) := xh (HB.out.alloc HB.out.size _)
        clear hK K
        try simp only [Act.put, xsa, xsz, xss]
        refine Sched.walk_one (by rfl) (fun K hK => ?_)
        refine yy41 (.tmp 50) (.tmp 53) rfl HO.out HB.out.size c3 (HM1.out _ (HWR.out.below HB.out)) (by have := HLEN.out; simp; omega) rfl rfl ?_
        intro P1 r1 y1 hown hb hlies
        replace HL := xh (hlies _ _ (by simp <;> omega) (fun b e => by injection e with e; subst e; simp) HL.out)
        refine hK _ _ hb ?_
        replace HB : Hid (Below wd.heap.size wd y1) := xh (HB.out.trans hb)
        replace HO := xh hown
        clear hK K hown hb hlies
        try simp only [Act.put, xsa, xsz, xss]
        refine Sched.walk_one (by rfl) (fun K hK => ?_)
        refine yy41 (.tmp 54) (.tmp 60) rfl HO.out HB.out.size 1 HL.out (by have := HLEN.out; simp; omega) rfl rfl ?_
        intro P2 r2 y2 hown hb hlies
        refine hK _ _ hb ?_
        replace HB : Hid (Below wd.heap.size wd y2) := xh (HB.out.trans hb)
        replace HO := xh hown
        clear hK K hown hb hlies
        try simp only [Act.put, xsa, xsz, xss]
        refine Sched.walk_one (by rfl) (fun K hK => ?_)
        refine yy41 (.tmp 61) (.tmp 64) rfl HO.out HB.out.size (c3 - q) (HM2.out _ (HWR.out.below HB.out)) (by have := HLEN.out; simp; omega) rfl rfl ?_
        intro P3 r3 y3 hown hb hlies
        refine hK _ _ hb ?_
        replace HB : Hid (Below wd.heap.size wd y3) := xh (HB.out.trans hb)
        replace HO := xh hown
        clear hK K hown hb hlies
        try simp only [Act.put, xsa, xsz, xss]
        repeat (first | (refine Sched.yy733 (by rfl) (fun K hK => ?_); go_big_quiet_op; refine hK _ ?_; clear hK K) | (refine Sched.yy568 (by rfl) ?_; simp only [Act.put, xsa, xsz, xss]))
        refine Sched.walk_done ?_
        have HBXX := xh (HBX.out.trans (HB.out.mono HBX.out.size))
        have HB4 := xh (HBJ.out.trans (HBXX.out.mono HBJ.out.size))
        have HO4 := xh (yy36 HO.out HBD.out.size)
        have hpl := HPL.out
        go_wp2_with fail
        go_roundw
        case rel => exact ⟨k + 1, (m1 ++ [x]) ++ m2, _, _, by omega, rfl, by go_num, trivial, by omega, HT2, HO4, HB4⟩
        case measure => simp [intOf]; omega
      ·refine Sched.walk_one (by rfl) (fun K hK => ?_)
       go_simp
       have HL : Hid (NumsAt ((wd).alloc (.cells #[.int .i64 x] 3)) (some ⟨wd.heap.size, 0, none⟩) [x]) := xh (yy509 wd x _ rfl)
       refine hK _ _ ((Below.refl _ _).alloc HB.out.size _) ?_
       replace HB : Hid (Below wd.heap.size wd ((wd).alloc (.cells #[.int .i64 x] 3))) := xh (HB.out.alloc HB.out.size _)
       clear hK K
       try simp only [Act.put, xsa, xsz, xss]
       refine Sched.walk_one (by rfl) (fun K hK => ?_)
       go_simp
       have HO : Hid (OwnK ((((wd).alloc (.cells #[.int .i64 x] 3))).alloc (.cells #[] 3)) wd.heap.size (some ⟨(wd.heap.size + 1), 0, none⟩) 0 []) := by
        have h := OwnK.empty (B := wd.heap.size) ((wd).alloc (.cells #[.int .i64 x] 3)) HB.out.size
        rw [show (((wd).alloc (.cells #[.int .i64 x] 3))).heap.size = (wd.heap.size + 1) from (by simp)] at h
        exact xh h
       replace HL := xh (HL.out.below ((Below.refl _ _).alloc (Nat.le_refl _) (.cells #[] 3)))
       refine hK _ _ ((Below.refl _ _).alloc HB.out.size _) ?_
       replace HB : Hid (Below wd.heap.size wd ((((wd).alloc (.cells #[.int .i64 x] 3))).alloc (.cells #[] 3))) := xh (HB.out.alloc HB.out.size _)
       clear hK K
       try simp only [Act.put, xsa, xsz, xss]
       refine Sched.walk_one (by rfl) (fun K hK => ?_)
       refine yy41 (.tmp 50) (.tmp 53) rfl HO.out HB.out.size c3 (HM1.out _ (HWR.out.below HB.out)) (by have := HLEN.out; simp; omega) rfl rfl ?_
       intro P1 r1 y1 hown hb hlies
       replace HL := xh (hlies _ _ (by simp <;> omega) (fun b e => by injection e with e; subst e; simp) HL.out)
       refine hK _ _ hb ?_
       replace HB : Hid (Below wd.heap.size wd y1) := xh (HB.out.trans hb)
       replace HO := xh hown
       clear hK K hown hb hlies
       try simp only [Act.put, xsa, xsz, xss]
       refine Sched.walk_one (by rfl) (fun K hK => ?_)
       refine yy41 (.tmp 54) (.tmp 60) rfl HO.out HB.out.size 1 HL.out (by have := HLEN.out; simp; omega) rfl rfl ?_
       intro P2 r2 y2 hown hb hlies
       refine hK _ _ hb ?_
       replace HB : Hid (Below wd.heap.size wd y2) := xh (HB.out.trans hb)
       replace HO := xh hown
       clear hK K hown hb hlies
       try simp only [Act.put, xsa, xsz, xss]
       refine Sched.walk_one (by rfl) (fun K hK => ?_)
       refine yy41 (.tmp 61) (.tmp 64) rfl HO.out HB.out.size (c3 - q) (HM2.out _ (HWR.out.below HB.out)) (by have := HLEN.out; simp; omega) rfl rfl ?_
       intro P3 r3 y3 hown hb hlies
       refine hK _ _ hb ?_
       replace HB : Hid (Below wd.heap.size wd y3) := xh (HB.out.trans hb)
       replace HO := xh hown
       clear hK K hown hb hlies
       try simp only [Act.put, xsa, xsz, xss]
       repeat (first | (refine Sched.yy733 (by rfl) (fun K hK => ?_); go_big_quiet_op; refine hK _ ?_; clear hK K) | (refine Sched.yy568 (by rfl) ?_; simp only [Act.put, xsa, xsz, xss]))
       refine Sched.walk_done ?_
       have HBXX := xh (HBX.out.trans (HB.out.mono HBX.out.size))
       have HB4 := xh (HBJ.out.trans (HBXX.out.mono HBJ.out.size))
       have HO4 := xh (yy36 HO.out HBD.out.size)
       have hpl := HPL.out
       go_wp2_with fail
       go_roundw
       case rel => exact ⟨k + 1, (m1 ++ [x]) ++ m2, _, _, by omega, rfl, by go_num, trivial, by omega, HT2, HO4, HB4⟩
       case measure => simp [intOf]; omega
  ·obtain rfl : k = l.length := by omega
   rw [yy713] at HE
   have hj3 := hPl
   clear hPl hk
   obtain ⟨w3, hw3⟩ : ∃ y, y = wj := ⟨wj, rfl⟩
   subst hw3
   have HIDS : Hid (effIds l = P) := HE
   clear HE
   go_wp2_with fail
   go_loopw [6, 7, 8, 9] (fun s6 s7 s8 s9 wr => ∃ (j : Nat) (A6 : Option Addr) (c6 : Nat) (L : List OneV), j ≤ P.length ∧ s6 = .slice A6 (List.length L) c6 ∧ s7 = .int .i64 (j : Int) ∧ s8 = s8 ∧ s9 = s9 ∧ Hid (L.length = j) ∧ Hid (L.map (·.k) = (P.take j).map (effOne l)) ∧ Hid (∀ y ∈ L, y.Good ∧ yy8 w y.opsA y.k.ops) ∧ Hid (OwnR wr w3.heap.size A6 c6 L) ∧ Hid (Below w3.heap.size w3 wr)) (fun _ s7 _ _ _ => P.length - (intOf s7).toNat)
   case atStart => exact ⟨0, none, 0, [], Nat.zero_le _, rfl, rfl, rfl, rfl, xh rfl, xh rfl, xh (fun y hy => by cases hy), xh (OwnR.nil _ _), xh (Below.refl _ _)⟩
   case round =>
    obtain ⟨j, A6, c6, L, hj, rfl, rfl, _, _, HLL, HLK, HLG, HOL, HB3⟩ := hrel
    obtain ⟨wo, hwo⟩ : ∃ y, y = wr := ⟨wr, rfl⟩
    subst hwo
    by_cases hlt : j < P.length
    ·obtain ⟨g1, o1, rfl, _⟩ := HOP.out.at_.form (by omega)
     have hjI : (j : Int) < (P.length : Int) := by omega
     have HPJ : Hid (∀ X : World, Below w3.heap.size w3 X → X.cell? ⟨g1, o1 + j, none⟩ = some (.int .i64 P[j])) := xh (fun X h => (HOP.out.at_.below h).get hlt)
     have HTK : Hid ((P.take (j + 1)).map (effOne l) = (P.take j).map (effOne l) ++ [effOne l P[j]]) := xh (by rw [List.take_succ_eq_append_getElem hlt, List.map_append]; rfl)
     have HFX : Hid (Fit64 P[j]) := xh (by
      have hm : P[j] ∈ effIds l := by rw [HIDS.out]; exact List.getElem_mem hlt
      obtain ⟨a, ha, he⟩ := yy84.1 hm
      rw [← he]
      exact (HG.out a ha).2.1)
     generalize P[j] = x at HPJ HTK HFX
     have z0 := HPJ.out _ HB3.out
     go_upto_region 15 with fail
     have HR0 : Hid (World.rowIs (wo.alloc (.cells #[.int .i64 x, .slice none 0 0, .bool false, .bool false, .bool false, .bool false, .int .i64 0, .string { data := #[] }] 55)) wo.heap.size 55 8 (oneRow (oneZ x) (.slice none 0 0))) := xh (yy24 wo 55 _ _ _ _ _ _ _ _)
     have HBO : Hid (Below wo.heap.size wo (wo.alloc (.cells #[.int .i64 x, .slice none 0 0, .bool false, .bool false, .bool false, .bool false, .int .i64 0, .string { data := #[] }] 55))) := xh ((Below.refl _ _).alloc (Nat.le_refl _) _)
     obtain ⟨g, HGG⟩ : ∃ g, Hid (g = wo.heap.size) := ⟨_, xh rfl⟩
     rw [← HGG.out] at HR0 ⊢
     clear z0
     generalize wo.alloc (.cells #[.int .i64 x, .slice none 0 0, .bool false, .bool false, .bool false, .bool false, .int .i64 0, .string { data := #[] }] 55) = w4 at HR0 HBO ⊢
     have HGW : Hid (wo.heap.size ≤ g) := xh (by rw [HGG.out]; exact Nat.le_refl _)
     go_wp2_with fail
     go_loopw [9] (fun s9 wr => ∃ (i : Nat) (X : OneK) (oA : Option Addr) (oC : Nat), i ≤ l.length ∧ s9 = .int .i64 (i : Int) ∧ Hid (effOne (l.take i) x = X) ∧ Hid (OneV.Good ⟨X, oA, oC⟩ ∧ yy8 w oA X.ops) ∧ Hid (wr.rowIs g 55 8 (oneRow X (.slice oA X.ops.length oC))) ∧ Hid (Below wo.heap.size wo wr)) (fun s9 _ => l.length - (intOf s9).toNat)
     case atStart => exact ⟨0, oneZ x, none, 0, Nat.zero_le _, rfl, xh rfl, xh ⟨⟨HFX.out, by show Fit64 0; unfold Fit64; omega, ⟨by simp [oneZ], by simp [oneZ, maxLen]⟩, fun y hy => (by cases hy), Nat.le_refl _, Nat.zero_le _⟩, .inl rfl⟩, HR0, HBO⟩
     case round =>
      clear HR0 HBO
      obtain ⟨i, X, oA, oC, hi, rfl, HX, HGX, HR, HB4⟩ := hrel
      by_cases hlt2 : i < l.length
      ·obtain ⟨b, off, rfl, _⟩ := HACT.out.form (by omega)
       have hiI : (i : Int) < (l.length : Int) := by omega
       have HAC := xh (fun (Y : World) (h : Below wo.heap.size wo Y) => (HACT.out.below (HBL.out.trans ((HB3.out.trans (h.mono HB3.out.size)).mono HBL.out.size))).at_ hlt2)
       have HGA := xh (HG.out _ (List.getElem_mem hlt2))
       have HCA := xh (HACT.out.2 _ (List.getElem_mem hlt2))
       have HST : Hid (effOne (l.take (i + 1)) x = yy48 X l[i]) := xh (by rw [List.take_succ_eq_append_getElem hlt2, yy69, HX.out])
       have HXI : Hid (X.id = x) := xh (by rw [← HX.out, yy277])
       generalize l[i] = a at HAC HGA HCA HST
       go_wp2_with fail
       refine wp_region_lit sc10 (by kernel_rfl) (by kernel_rfl) (fun _ _ d _ _ h => by cases d <;> exact h) ?_
       simp only [picked, sc10, xmc, xmn, xgs, xgz, xgd]
       have HRD := xh HR.out.drew
       have HBD := xh (Below.drew HB4.out)
       have q0 := fun e : Ext wr.drew => (HAC.out e.val (HBD.out.trans (e.property.mono HBD.out.size))).2.1
       have q1 := fun e : Ext wr.drew => HPJ.out e.val (HB3.out.trans ((HBD.out.trans (e.property.mono HBD.out.size)).mono HB3.out.size))
       generalize wr.drew = wz at HRD HBD q0 q1 ⊢
       repeat (first | (refine yy1 (by rfl) (fun K hK => ?_); go_big_quiet_op; refine hK _ ?_; clear hK K) | (refine yy3 (by rfl) ?_; simp only [Act.put, xsa, xsz, xss]))
       clear q0 q1 HR HB4
       refine yy25 ?_
       by_cases hx : a.id = x
       ·have HIX : Hid (a.id = X.id) := xh (hx.trans HXI.out.symm)
        have dx : (a.id != x) = false := by rw [hx]; simp
        clear hx
        by_cases j1 : a.kind = 1
        ·have d1 : (a.kind == 1) = true := by rw [j1]; rfl
         have HKK := xh j1
         clear j1
         have r0 := HRD.out
         have hb0 := HBD.out
         have c0 : wz.cell? ⟨g, 4, none⟩ = some (.bool X.created) := r0.cell (i := 4) (by omega)
         have f0 := r0.frozen 4
         have r1 := r0.set 4 (.bool true)
         have hb1 := hb0.setCell (p := ⟨g, 4, none⟩) HGW.out (.bool true)
         have c1 : (wz.setCell ⟨g, 4, none⟩ (.bool true)).cell? ⟨g, 6, none⟩ = some (.int .i64 X.parent) := r1.cell (i := 6) (by omega)
         have f1 := r1.frozen 6
         have r2 := r1.set 6 (.int .i64 a.parent)
         have hb2 := hb1.setCell (p := ⟨g, 6, none⟩) HGW.out (.int .i64 a.parent)
         have c2 : ((wz.setCell ⟨g, 4, none⟩ (.bool true)).setCell ⟨g, 6, none⟩ (.int .i64 a.parent)).cell? ⟨g, 7, none⟩ = some (.string (bstr X.name)) := r2.cell (i := 7) (by omega)
         have f2 := r2.frozen 7
         have r3 := r2.set 7 (.string (bstr a.name))
         have hb3 := hb2.setCell (p := ⟨g, 7, none⟩) HGW.out (.string (bstr a.name))
         have k0 := (HAC.out _ hb0).1
         have k1 := (HAC.out _ hb1).1
         have p1 := (HAC.out _ hb1).2.2.1
         have p2 := (HAC.out _ hb2).2.2.2.1
         have HR9 := xh (show World.rowIs (((wz.setCell ⟨g, 4, none⟩ (.bool true)).setCell ⟨g, 6, none⟩ (.int .i64 a.parent)).setCell ⟨g, 7, none⟩ (.string (bstr a.name))) g 55 8 (oneRow ({ X with created := true, parent := a.parent, name := a.name } : OneK) (.slice oA X.ops.length oC)) from r3.congr fun i hi => by rcases (show i = 0 ∨ i = 1 ∨ i = 2 ∨ i = 3 ∨ i = 4 ∨ i = 5 ∨ i = 6 ∨ i = 7 by omega) with rfl | rfl | rfl | rfl | rfl | rfl | rfl | rfl <;> rfl)
         have HB9 := xh hb3
         have HG9 : Hid (OneV.Good ⟨{ X with created := true, parent := a.parent, name := a.name }, oA, oC⟩ ∧ yy8 w oA ({ X with created := true, parent := a.parent, name := a.name } : OneK).ops) := xh ⟨⟨HGX.out.1.1, HGA.out.2.2.1, HGA.out.2.2.2.1, HGX.out.1.2.2.2⟩, HGX.out.2⟩
         have HX9 : Hid (effOne (l.take (i + 1)) x = { X with created := true, parent := a.parent, name := a.name }) := xh (by rw [HST.out]; unfold yy48; rw [if_neg (fun h => h HIX.out), if_pos HKK.out])
         clear r0 r1 r2 r3 hb0 hb1 hb2 hb3
         go_wp2_with fail
         go_roundw
         case rel => exact ⟨i + 1, { X with created := true, parent := a.parent, name := a.name }, oA, oC, by omega, by go_num, HX9, HG9, HR9, HB9⟩
         case measure => simp [intOf]; omega
        have d1 : (a.kind == 1) = false := xn j1
        have HK1 := xh j1
        clear j1
        by_cases j2 : a.kind = 2
        ·have d2 : (a.kind == 2) = true := by rw [j2]; rfl
         have d3 : (a.kind == 3) = false := xn (by omega)
         have HKK := xh j2
         clear j2
         have r0 := HRD.out
         have hb0 := HBD.out
         have c0 : wz.cell? ⟨g, 3, none⟩ = some (.bool X.removed) := r0.cell (i := 3) (by omega)
         have f0 := r0.frozen 3
         have r1 := r0.set 3 (.bool true)
         have hb1 := hb0.setCell (p := ⟨g, 3, none⟩) HGW.out (.bool true)
         have k0 := (HAC.out _ hb0).1
         have k1 := (HAC.out _ hb1).1
         have HR9 := xh (show World.rowIs (wz.setCell ⟨g, 3, none⟩ (.bool true)) g 55 8 (oneRow ({ X with removed := true } : OneK) (.slice oA X.ops.length oC)) from r1.congr fun i hi => by rcases (show i = 0 ∨ i = 1 ∨ i = 2 ∨ i = 3 ∨ i = 4 ∨ i = 5 ∨ i = 6 ∨ i = 7 by omega) with rfl | rfl | rfl | rfl | rfl | rfl | rfl | rfl <;> rfl)
         have HB9 := xh hb1
         have HG9 : Hid (OneV.Good ⟨{ X with removed := true }, oA, oC⟩ ∧ yy8 w oA ({ X with removed := true } : OneK).ops) := xh ⟨⟨HGX.out.1.1, HGX.out.1.2.1, HGX.out.1.2.2.1, HGX.out.1.2.2.2⟩, HGX.out.2⟩
         have HX9 : Hid (effOne (l.take (i + 1)) x = { X with removed := true }) := xh (by rw [HST.out]; unfold yy48; rw [if_neg (fun h => h HIX.out), if_neg HK1.out, if_pos HKK.out])
         clear r0 r1 hb0 hb1
         go_wp2_with fail
         go_roundw
         case rel => exact ⟨i + 1, { X with removed := true }, oA, oC, by omega, by go_num, HX9, HG9, HR9, HB9⟩
         case measure => simp [intOf]; omega
        have d2 : (a.kind == 2) = false := xn j2
        have HK2 := xh j2
        clear j2
        by_cases j3 : a.kind = 3
        ·have d3 : (a.kind == 3) = true := by rw [j3]; rfl
         have HKK := xh j3
         clear j3
         have r0 := HRD.out
         have hb0 := HBD.out
         have c0 : wz.cell? ⟨g, 5, none⟩ = some (.bool X.moved) := r0.cell (i := 5) (by omega)
         have f0 := r0.frozen 5
         have r1 := r0.set 5 (.bool true)
         have hb1 := hb0.setCell (p := ⟨g, 5, none⟩) HGW.out (.bool true)
         have c1 : (wz.setCell ⟨g, 5, none⟩ (.bool true)).cell? ⟨g, 6, none⟩ = some (.int .i64 X.parent) := r1.cell (i := 6) (by omega)
         have f1 := r1.frozen 6
         have r2 := r1.set 6 (.int .i64 a.parent)
         have hb2 := hb1.setCell (p := ⟨g, 6, none⟩) HGW.out (.int .i64 a.parent)
         have c2 : ((wz.setCell ⟨g, 5, none⟩ (.bool true)).setCell ⟨g, 6, none⟩ (.int .i64 a.parent)).cell? ⟨g, 7, none⟩ = some (.string (bstr X.name)) := r2.cell (i := 7) (by omega)
         have f2 := r2.frozen 7
         have r3 := r2.set 7 (.string (bstr a.name))
         have hb3 := hb2.setCell (p := ⟨g, 7, none⟩) HGW.out (.string (bstr a.name))
         have k0 := (HAC.out _ hb0).1
         have k1 := (HAC.out _ hb1).1
         have p1 := (HAC.out _ hb1).2.2.1
         have p2 := (HAC.out _ hb2).2.2.2.1
         have HR9 := xh (show World.rowIs (((wz.setCell ⟨g, 5, none⟩ (.bool true)).setCell ⟨g, 6, none⟩ (.int .i64 a.parent)).setCell ⟨g, 7, none⟩ (.string (bstr a.name))) g 55 8 (oneRow ({ X with moved := true, parent := a.parent, name := a.name } : OneK) (.slice oA X.ops.length oC)) from r3.congr fun i hi => by rcases (show i = 0 ∨ i = 1 ∨ i = 2 ∨ i = 3 ∨ i = 4 ∨ i = 5 ∨ i = 6 ∨ i = 7 by omega) with rfl | rfl | rfl | rfl | rfl | rfl | rfl | rfl <;> rfl)
         have HB9 := xh hb3
         have HG9 : Hid (OneV.Good ⟨{ X with moved := true, parent := a.parent, name := a.name }, oA, oC⟩ ∧ yy8 w oA ({ X with moved := true, parent := a.parent, name := a.name } : OneK).ops) := xh ⟨⟨HGX.out.1.1, HGA.out.2.2.1, HGA.out.2.2.2.1, HGX.out.1.2.2.2⟩, HGX.out.2⟩
         have HX9 : Hid (effOne (l.take (i + 1)) x = { X with moved := true, parent := a.parent, name := a.name }) := xh (by rw [HST.out]; unfold yy48; rw [if_neg (fun h => h HIX.out), if_neg HK1.out, if_neg HK2.out, if_pos HKK.out])
         clear r0 r1 r2 r3 hb0 hb1 hb2 hb3
         go_wp2_with fail
         go_roundw
         case rel => exact ⟨i + 1, { X with moved := true, parent := a.parent, name := a.name }, oA, oC, by omega, by go_num, HX9, HG9, HR9, HB9⟩
         case measure => simp [intOf]; omega
        have d3 : (a.kind == 3) = false := xn j3
        have HK3 := xh j3
        clear j3
        by_cases j4 : a.kind = 4
        ·have d4 : (a.kind == 4) = true := by rw [j4]; rfl
         have HKK := xh j4
         clear j4
         have r0 := HRD.out
         have hb0 := HBD.out
         have c0 : wz.cell? ⟨g, 2, none⟩ = some (.bool X.edited) := r0.cell (i := 2) (by omega)
         have f0 := r0.frozen 2
         have r1 := r0.set 2 (.bool true)
         have hb1 := hb0.setCell (p := ⟨g, 2, none⟩) HGW.out (.bool true)
         have c1 : (wz.setCell ⟨g, 2, none⟩ (.bool true)).cell? ⟨g, 1, none⟩ = some (.slice oA X.ops.length oC) := r1.cell (i := 1) (by omega)
         have f1 := r1.frozen 1
         have r2 := r1.set 1 (.slice a.opsA a.ops.length a.opsC)
         have hb2 := hb1.setCell (p := ⟨g, 1, none⟩) HGW.out (.slice a.opsA a.ops.length a.opsC)
         have k0 := (HAC.out _ hb0).1
         have k2 := (HAC.out _ hb2).1
         have p1 := (HAC.out _ hb1).2.2.2.2.2
         have HR9 := xh (show World.rowIs ((wz.setCell ⟨g, 2, none⟩ (.bool true)).setCell ⟨g, 1, none⟩ (.slice a.opsA a.ops.length a.opsC)) g 55 8 (oneRow ({ X with edited := true, ops := a.ops } : OneK) (.slice a.opsA a.ops.length a.opsC)) from r2.congr fun i hi => by rcases (show i = 0 ∨ i = 1 ∨ i = 2 ∨ i = 3 ∨ i = 4 ∨ i = 5 ∨ i = 6 ∨ i = 7 by omega) with rfl | rfl | rfl | rfl | rfl | rfl | rfl | rfl <;> rfl)
         have HB9 := xh hb2
         have HG9 : Hid (OneV.Good ⟨{ X with edited := true, ops := a.ops }, a.opsA, a.opsC⟩ ∧ yy8 w a.opsA ({ X with edited := true, ops := a.ops } : OneK).ops) := xh ⟨⟨HGX.out.1.1, HGX.out.1.2.1, HGX.out.1.2.2.1, HGA.out.2.2.2.2.1, HGA.out.2.2.2.2.2.1, HGA.out.2.2.2.2.2.2⟩, HCA.out⟩
         have HX9 : Hid (effOne (l.take (i + 1)) x = { X with edited := true, ops := a.ops }) := xh (by rw [HST.out]; unfold yy48; rw [if_neg (fun h => h HIX.out), if_neg HK1.out, if_neg HK2.out, if_neg HK3.out, if_pos HKK.out])
         clear r0 r1 r2 hb0 hb1 hb2
         go_wp2_with fail
         go_roundw
         case rel => exact ⟨i + 1, { X with edited := true, ops := a.ops }, a.opsA, a.opsC, by omega, by go_num, HX9, HG9, HR9, HB9⟩
         case measure => simp [intOf]; omega
        have d4 : (a.kind == 4) = false := xn j4
        have HK4 := xh j4
        clear j4
        have r0 := HRD.out
        have hb0 := HBD.out
        have k0 := (HAC.out _ hb0).1
        have HR9 := xh r0
        have HB9 := xh hb0
        have HG9 : Hid (OneV.Good ⟨X, oA, oC⟩ ∧ yy8 w oA (X : OneK).ops) := xh HGX.out
        have HX9 : Hid (effOne (l.take (i + 1)) x = X) := xh (by rw [HST.out]; unfold yy48; rw [if_neg (fun h => h HIX.out), if_neg HK1.out, if_neg HK2.out, if_neg HK3.out, if_neg HK4.out])
        clear r0 hb0
        go_wp2_with fail
        go_roundw
        case rel => exact ⟨i + 1, X, oA, oC, by omega, by go_num, HX9, HG9, HR9, HB9⟩
        case measure => simp [intOf]; omega
       ·have dx : (a.id != x) = true := by simpa using hx
        have HX9 : Hid (effOne (l.take (i + 1)) x = X) := xh (by rw [HST.out]; unfold yy48; rw [if_pos (fun h => hx (h.trans HXI.out))])
        clear hx
        go_wp2_with fail
        go_roundw
        case rel => exact ⟨i + 1, X, oA, oC, by omega, by go_num, HX9, HGX, HRD, HBD⟩
        case measure => simp [intOf]; omega
      ·obtain rfl : i = l.length := by omega
       rw [List.take_length] at HX
       obtain ⟨x0, x1, x2, x3, x4, x5, x6, x7⟩ := yy9 HR.out
       have HOW := xh (HOL.out.below HB4.out)
       have HB5 := xh (HB3.out.trans (HB4.out.mono HB3.out.size))
       have hsz := HB5.out.size
       obtain ⟨w6, hw6⟩ : ∃ y, y = wr := ⟨wr, rfl⟩
       subst hw6
       go_wp2_with (at_builtin
                    refine yy88 rfl (.tmp 142) (.tmp 144) rfl (B := w3.heap.size) (out := L) (m := [⟨X, oA, oC⟩]) (HOW.out.alloc (.cells (yy5 ⟨X, oA, oC⟩).toArray 55)) (by simp; omega) 1 (yy553 w6 ⟨X, oA, oC⟩ _ rfl) (by have := HLL.out; simp; omega) rfl rfl ?_
                    intro A7 c7 w7 hown hbel
                    have HO7 := xh hown
                    have HB7 := xh ((HB5.out.alloc hsz (.cells (yy5 ⟨X, oA, oC⟩).toArray 55)).trans hbel)
                    clear hown hbel)
       go_roundw
       case rel => exact ⟨j + 1, A7, c7, L ++ [⟨X, oA, oC⟩], by omega, by simp, by go_num, trivial, trivial, xh (by simp [HLL.out]), xh (by rw [List.map_append, HLK.out, HTK.out, ← HX.out]; rfl), xh (fun y hy => by
        rcases List.mem_append.1 hy with h | h
        ·exact HLG.out y h
        ·rw [List.mem_singleton.1 h]; exact HGX.out), HO7, HB7⟩
       case measure => simp [intOf]; omega
    ·obtain rfl : j = P.length := by omega
     go_wp2
     go_ret
     exact ⟨⟨A6, c6, L, rfl, ⟨HOL.out.at_, fun y hy => ((HLG.out y hy).2).below (HBL.out.trans (HB3.out.mono HBL.out.size))⟩, by rw [HLK.out, List.take_length, ← HIDS.out]; rfl, fun y hy => (HLG.out y hy).1⟩, HBL.out.trans (HB3.out.mono HBL.out.size)⟩
end Go.Proofs.YtjpjdkdbgjipnaaGreatDoor
