/- One act behind what was done, in each of its ways; what the document fixes of it. No condition. (Merged of 5 texts.) -/
import Derived.Test.YtjpjdkdbgjipnaaDoorU17
import Derived.Test.YtjpjdkdbgjipnaaDoorU28
import Derived.Test.YtjpjdkdbgjipnaaDoorU8
import Derived.Test.YtjpjdkdbgjipnaaDoorU15
import Derived.Test.YtjpjdkdbgjipnaaDoorU11
import Derived.Deep.CutRange
import Derived.Deep.DeepCutAuto
import Derived.Test.YtjpjdkdbgjipnaaDoorU2
namespace Go.Proofs.YtjpjdkdbgjipnaaDoor
theorem yy214 (c : CompV) (l : List CompV) : tlen (c :: l) = c.text.length + tlen l := by simp [tlen]
theorem yy708 {c : CompV} (h : c.kind ≠ 2) (l : List CompV) (n : Nat) : tlen (chop c l n) ≤ tlen l := by
 unfold chop
 split
 ·exact Nat.le_refl _
 ·rw [yy214, cut, if_neg h]
  simp
theorem Ov.text {f : Bool} {a b o : List CompV} (h : Ov f a b o) : tlen o ≤ tlen a := by
 induction h with
 | nil => exact Nat.le_refl _
 | puts c a b o _ _ _ ih => rw [yy214, yy214]; omega
 | pass a d b o _ _ _ ih => rw [yy214]; simp; exact ih
 | both c a d b o n hc _ _ _ ih =>
  have h1 := yy708 hc a n
  have h2 := yy214 c a
  rw [yy93]
  have h3 : tlen (if d.kind = 1 then [piece c n] else []) = 0 := by
   split
   ·rw [yy214, piece, if_neg hc]
    rfl
   ·rfl
  omega
theorem yy393 (f : Bool) (a b : List CompV) : tlen (rOver f a b).1 ≤ tlen a := by
 by_cases h : (rOver f a b).2 = 0
 ·obtain ⟨oa, ob, he⟩ := yy865 h
  obtain ⟨d, hd⟩ := yy619 f oa ob he
  obtain ⟨o, ho, e, _⟩ := hd.raw
  rw [hd.over]
  show tlen d ≤ _
  rw [e]
  exact Nat.le_trans (yy328 o) ho.text
 ·rw [yy690 h]
  exact Nat.zero_le _
def ActB (a : ActV) : Prop := ActH a ∧ a.name.length ≤ 4000 ∧ tlen a.ops ≤ 4000
theorem ActB.ok {a : ActV} (h : ActB a) : ActOk a := ⟨h.1.1, h.2.1, h.1.2.1.fine, h.2.2⟩
theorem acts_b {lim : Nat} (hlim : lim ≤ 4000) {l : List ActV} (hg : ∀ y ∈ l, y.Good) (h : yy34 lim l ≤ lim) : l.length ≤ 4000 ∧ ∀ y ∈ l, ActB y := by
 obtain ⟨h1, _⟩ := yy343 (yy91 lim) lim (by omega) l h
 obtain ⟨h2, h3⟩ := yy693 hlim hg h
 refine ⟨h2, fun y hy => ⟨h3 y hy, ?_, ?_⟩⟩
 ·have h4 := h1 y hy
  simp only [yy91, List.sum_cons, List.sum_nil] at h4
  omega
 ·have h4 := h1 y hy
  simp only [yy91, List.sum_cons, List.sum_nil] at h4
  have h5 := yy153 lim (by omega) y.ops (by omega)
  omega
open Classical in
noncomputable def passF (a : ActV) (y : OneK) : List CompV × Nat := if a.kind = 4 ∧ y.edited = true ∧ y.ops ≠ [] then rOver false a.ops y.ops else (a.ops, 0)
theorem yy620 (a : ActV) (y : OneK) : tlen (passF a y).1 ≤ tlen a.ops := by
 unfold passF
 split
 ·exact yy393 _ _ _
 ·exact Nat.le_refl _
theorem yy621 {a : ActV} {ks : List OneK} (h : rWhy a ks = 0) (hl : rbLeft a ks = false) (h0 : (passF a (getK0 ks a.id)).2 = 0) : rbOne a ks = (some { a with ops := (passF a (getK0 ks a.id)).1 }, 0) := by
 by_cases he : rbEdit a ks
 ·have e : passF a (getK0 ks a.id) = rOver false a.ops (getK0 ks a.id).ops := if_pos he
  rw [e] at h0 ⊢
  exact yy136 h hl he h0
 ·have e : passF a (getK0 ks a.id) = (a.ops, 0) := if_neg he
  rw [e, yy112 h hl he]
theorem yy353 {a : ActV} {ks : List OneK} (h : rWhy a ks = 0) (hl : rbLeft a ks = false) (h0 : (passF a (getK0 ks a.id)).2 ≠ 0) : rbOne a ks = (none, ((passF a (getK0 ks a.id)).2 : Int)) := by
 by_cases he : rbEdit a ks
 ·have e : passF a (getK0 ks a.id) = rOver false a.ops (getK0 ks a.id).ops := if_pos he
  rw [e] at h0 ⊢
  exact yy352 h hl he h0
 ·have e : passF a (getK0 ks a.id) = (a.ops, 0) := if_neg he
  rw [e] at h0
  exact absurd rfl h0
end Go.Proofs.YtjpjdkdbgjipnaaDoor
namespace Go.Proofs.YtjpjdkdbgjipnaaDoor
open Go.RowKit Go.Deep
set_option maxHeartbeats 8000000 in
set_option maxRecDepth 100000 in
theorem yy629 (a : ActV) (y : OneV) (hk : Held1 a.ops) (hnm : a.name.length ≤ 1048576) (hy : Held1 y.k.ops) (w : World) (hA : CompsC w a.opsA a.opsC a.ops) (hY : CompsC w y.opsA y.opsC y.k.ops) :
  Calls Tryd.prog 37 #[.agg (yy1 a).toArray, .agg (yy10 y).toArray] w fun e w' => ∃ A2 c2, e = .returned (.tuple #[.agg (yy1 { a with opsA := A2, opsC := c2, ops := (passF a y.k).1 }).toArray, .int .i64 ((passF a y.k).2 : Int)]) ∧ (passF a y.k).1.length ≤ c2 ∧ c2 ≤ maxLen ∧ Held1 (passF a y.k).1 ∧ w'.ownsRow w.heap.size 51 3 (.slice A2 (passF a y.k).1.length c2) (passF a y.k).1.length ((passF a y.k).1.flatMap yy5) ∧ Below w.heap.size w w' := by
 have HA := xh (fun (W : World) (h : Below w.heap.size w W) => hA.below h)
 have HY := xh (fun (W : World) (h : Below w.heap.size w W) => hY.below h)
 have HHA := xh hk
 have HHY := xh hy
 have HNM := xh hnm
 clear hA hY hk hy hnm
 obtain ⟨ak, ai, ap, an, ad, aA, aC, ao⟩ := a
 obtain ⟨⟨xi, xo, xe, xr, xc, xm, xp, xn⟩, xA, xC⟩ := y
 have HPT : Hid ((ak = 4 ∧ xe = true ∧ xo ≠ []) → passF ⟨ak, ai, ap, an, ad, aA, aC, ao⟩ ⟨xi, xo, xe, xr, xc, xm, xp, xn⟩ = rOver false ao xo) := xh (fun h => if_pos h)
 have HPN : Hid (¬ (ak = 4 ∧ xe = true ∧ xo ≠ []) → passF ⟨ak, ai, ap, an, ad, aA, aC, ao⟩ ⟨xi, xo, xe, xr, xc, xm, xp, xn⟩ = (ao, 0)) := xh (fun h => if_neg h)
 simp only at HA HY HHA HHY HNM ⊢
 generalize passF ⟨ak, ai, ap, an, ad, aA, aC, ao⟩ ⟨xi, xo, xe, xr, xc, xm, xp, xn⟩ = Q at HPT HPN ⊢
 obtain ⟨P, q⟩ := Q
 simp only
 unfold yy1 yy10
 simp only
 obtain ⟨g, hg⟩ : ∃ g, g = w.heap.size := ⟨_, rfl⟩
 have HR1 := xh (((yy77 w 46 (.int .i64 ak) (.int .i64 ai) (.int .i64 ap) (.string (bstr an)) (.bool ad) (.slice aA ao.length aC)).alloc (Obj.cells #[.int .i64 xi, .slice xA xo.length xC, .bool xe, .bool xr, .bool xc, .bool xm, .int .i64 xp, .string (bstr xn)] 48)).alloc (Obj.cells #[.int .i64 0, .int .i64 0, .int .i64 0, .string { data := #[] }, .bool false, .slice none 0 0] 46))
 have HR2 := xh ((yy39 (w.alloc (.cells #[.int .i64 ak, .int .i64 ai, .int .i64 ap, .string (bstr an), .bool ad, .slice aA ao.length aC] 46)) 48 (.int .i64 xi) (.slice xA xo.length xC) (.bool xe) (.bool xr) (.bool xc) (.bool xm) (.int .i64 xp) (.string (bstr xn))).alloc (Obj.cells #[.int .i64 0, .int .i64 0, .int .i64 0, .string { data := #[] }, .bool false, .slice none 0 0] 46))
 have HR3 := xh (yy77 ((w.alloc (.cells #[.int .i64 ak, .int .i64 ai, .int .i64 ap, .string (bstr an), .bool ad, .slice aA ao.length aC] 46)).alloc (.cells #[.int .i64 xi, .slice xA xo.length xC, .bool xe, .bool xr, .bool xc, .bool xm, .int .i64 xp, .string (bstr xn)] 48)) 46 (.int .i64 0) (.int .i64 0) (.int .i64 0) (.string { data := #[] }) (.bool false) (.slice none 0 0))
 have HB1 : Hid (Below w.heap.size w _) := xh ((((Below.refl w.heap.size w).alloc (Nat.le_refl _) (.cells #[.int .i64 ak, .int .i64 ai, .int .i64 ap, .string (bstr an), .bool ad, .slice aA ao.length aC] 46)).alloc (by simp) (.cells #[.int .i64 xi, .slice xA xo.length xC, .bool xe, .bool xr, .bool xc, .bool xm, .int .i64 xp, .string (bstr xn)] 48)).alloc (by simp; omega) (.cells #[.int .i64 0, .int .i64 0, .int .i64 0, .string { data := #[] }, .bool false, .slice none 0 0] 46))
 rw [World.size_alloc, World.size_alloc, ← hg] at HR3
 rw [World.size_alloc, ← hg] at HR2
 rw [← hg] at HR1 HB1 HA HY
 have HG := xh hg
 clear hg
 obtain ⟨W0, HW0⟩ : ∃ x, Hid ((((w.alloc (.cells #[.int .i64 ak, .int .i64 ai, .int .i64 ap, .string (bstr an), .bool ad, .slice aA ao.length aC] 46)).alloc (.cells #[.int .i64 xi, .slice xA xo.length xC, .bool xe, .bool xr, .bool xc, .bool xm, .int .i64 xp, .string (bstr xn)] 48)).alloc (.cells #[.int .i64 0, .int .i64 0, .int .i64 0, .string { data := #[] }, .bool false, .slice none 0 0] 46)) = x) := ⟨_, xh rfl⟩
 rw [HW0.out] at HR1 HR2 HR3 HB1
 rw [← HG.out]
 go_enter Tryd.func37, Tryd.ntmps37
 go_upto_region 1 with fail
 rw [← HG.out, HW0.out]
 clear HW0
 obtain ⟨bb, HBB⟩ : ∃ bb : Bool, Hid (bb = true ↔ ak = 4 ∧ xe = true ∧ xo ≠ []) := ⟨@decide _ (Classical.propDecidable _), xh (@decide_eq_true_iff _ (Classical.propDecidable _))⟩
 go_upto_region 2 with fail
 go_cut [19] from 7 to 19 (fun s wc => s = .bool bb ∧ wc = W0)
 case first =>
  obtain ⟨y0, y1, y2, y3, y4, y5⟩ := yy11 HR1.out
  obtain ⟨x0, x1, x2, x3, x4, x5, x6, x7⟩ := yy15 HR2.out
  clear y1 y2 y3 y4 y5 x0 x3 x4 x5 x6 x7
  by_cases h4 : ak = 4
  ·obtain rfl : ak = 4 := h4
   cases xe with
   | false =>
    have HE : Hid (bb = false) := xh (by rw [Bool.eq_false_iff]; intro h; exact absurd (HBB.out.1 h).2.1 (by simp))
    go_wp2
    go_meet
    case rel => exact ⟨by rw [HE.out], rfl⟩
   | true =>
    by_cases h0 : xo = []
    ·subst h0
     have HE : Hid (bb = false) := xh (by rw [Bool.eq_false_iff]; intro h; exact (HBB.out.1 h).2.2 rfl)
     go_wp2
     go_meet
     case rel => exact ⟨by rw [HE.out], rfl⟩
    ·have HE : Hid (bb = true) := xh (HBB.out.2 ⟨rfl, rfl, h0⟩)
     have hlen : 0 < xo.length := Nat.pos_of_ne_zero (fun h => h0 (List.length_eq_zero_iff.1 h))
     have hlenI : (0 : Int) < (xo.length : Int) := by omega
     clear h0
     go_wp2
     go_meet
     case rel => exact ⟨by rw [HE.out], rfl⟩
  ·have d4 : (ak == 4) = false := beq_eq_false_iff_ne.2 h4
   have HE : Hid (bb = false) := xh (by rw [Bool.eq_false_iff]; intro h; exact h4 (HBB.out.1 h).1)
   clear h4
   go_wp2
   go_meet
   case rel => exact ⟨by rw [HE.out], rfl⟩
 case rest =>
  obtain ⟨rfl, rfl⟩ := hcut
  have hlg := HR1.out.lt
  have HLG := xh hlg
  clear hlg
  go_upto_if 19 with fail
  go_cut [6] from 20 to 28 (fun s6 wx => ∃ A' c', s6 = .int .i64 (q : Int) ∧ World.rowIs wx g 46 6 (sixV (.int .i64 ak) (.int .i64 ai) (.int .i64 ap) (.string (bstr an)) (.bool ad) (.slice A' P.length c')) ∧ World.rowIs wx (g + 1 + 1) 46 6 (sixV (.int .i64 0) (.int .i64 0) (.int .i64 0) (.string { data := #[] }) (.bool false) (.slice none 0 0)) ∧ yy7 wx A' P ∧ Held1 P ∧ Below g w wx)
  case first =>
   cases bb with
   | false =>
    have h := HPN.out (fun h => absurd (HBB.out.2 h) (by simp))
    injection h with h1 h2
    subst h1 h2
    go_wp2
    go_meet
    case rel => exact ⟨aA, aC, rfl, HR1.out, HR3.out, (HA.out _ HB1.out).1, HHA.out, HB1.out⟩
   | true =>
    have HO := xh (HPT.out (HBB.out.1 rfl))
    have GO := xh (yy196 aA aC ao xA xC xo HHA.out.max HHY.out.max HHA.out.fine HHY.out.fine false wc (HA.out _ HB1.out) (HY.out _ HB1.out))
    rw [← HO.out] at GO
    obtain ⟨y0, y1, y2, y3, y4, y5⟩ := yy11 HR1.out
    obtain ⟨x0, x1, x2, x3, x4, x5, x6, x7⟩ := yy15 HR2.out
    clear y0 y1 y2 y3 y4 x0 x2 x3 x4 x5 x6 x7
    go_wp2_with fail
    refine (GO.out).mono ?_
    rintro e w2 ⟨⟨A2, c2, rfl, hown⟩, hh, hb⟩
    have HRA := xh (HR1.out.of_block (hb.block _ HR1.out.lt))
    have HRC := xh (HR3.out.of_block (hb.block _ HR3.out.lt))
    have HBA : Hid (Below g w w2) := xh (HB1.out.trans (hb.mono (Nat.le_of_lt HLG.out)))
    have HOWN := xh hown
    have HHP := xh hh
    clear y5 x1 hb hown hh GO
    have h5 := HRA.out.cell (i := 5) (by omega)
    have f5 := HRA.out.frozen 5
    go_wp2
    go_meet
    case rel => exact ⟨A2, c2, rfl, (HRA.out.set 5 (.slice A2 P.length c2)).congr fun i hi => by rcases (show i = 0 ∨ i = 1 ∨ i = 2 ∨ i = 3 ∨ i = 4 ∨ i = 5 by omega) with rfl | rfl | rfl | rfl | rfl | rfl <;> rfl, HRC.out.setOther (a := ⟨g, 5, none⟩) (by show g + 1 + 1 ≠ g; omega) _, yy6.of_own (ownsRow_setCell_below (a := ⟨g, 5, none⟩) HOWN.out HLG.out _), HHP.out, HBA.out.setCell (p := ⟨g, 5, none⟩) (Nat.le_refl g) _⟩
  case rest =>
   clear HR1 HR2 HR3 HB1 HA HY HLG
   obtain ⟨A1, c1, rfl, hr1, hr3, hc, hh, hb⟩ := hcut
   have HR1 := xh hr1
   have HR3 := xh hr3
   have HB1 := xh hb
   have HHP := xh hh
   have GO := xh (yy483 ⟨ak, ai, ap, an, ad, A1, c1, P⟩ hh HNM.out wc hc)
   unfold yy1 at GO
   simp only at GO
   clear hr1 hr3 hc hh hb
   obtain ⟨y0, y1, y2, y3, y4, y5⟩ := yy11 HR1.out
   go_wp2_with fail
   refine (GO.out).mono ?_
   rintro e w2 ⟨⟨A2, c2, rfl, hl1, hl2, hown⟩, hb⟩
   have HRC := xh (HR3.out.of_block (hb.block _ HR3.out.lt))
   have HBA : Hid (Below g w w2) := xh (HB1.out.trans (hb.mono (Nat.le_of_lt HR1.out.lt)))
   have HOWN := xh hown
   have HLT : Hid (g + 1 + 1 < wc.heap.size) := xh HR3.out.lt
   have HRM := xh (And.intro hl1 hl2)
   clear y0 y1 y2 y3 y4 y5 hb hown hl1 hl2 GO HR1 HR3 HB1
   obtain ⟨⟨a0, f0⟩, ⟨a1, f1⟩, ⟨a2, f2⟩, ⟨a3, f3⟩, ⟨a4, f4⟩, ⟨a5, f5⟩, hres⟩ := yy598 HRC.out (.int .i64 ak) (.int .i64 ai) (.int .i64 ap) (.string (bstr an)) (.bool ad) (.slice A2 P.length c2)
   have HRES := xh (yy756 hres)
   clear hres
   go_wp2
   refine bodyPost_ret (yy53 rfl _ _ (g + 1 + 1) 46 #[.int .i64 ak, .int .i64 ai, .int .i64 ap, .string (bstr an), .bool ad, .slice A2 P.length c2] (0, 0) _ rfl HRES.out Tryd.underlying46 rfl (by kernel_rfl)) rfl ?_
   exact ⟨A2, c2, rfl, HRM.out.1, HRM.out.2, HHP.out, yy33 (yy599 HOWN.out HLT.out _ _ _ _ _ _) (by have := HLT.out; omega), yy344 HBA.out (by omega) _ _ _ _ _ _⟩
end Go.Proofs.YtjpjdkdbgjipnaaDoor
namespace Go.Proofs.YtjpjdkdbgjipnaaDoor
theorem yy407 {l : List NodeV} {k : Nat} (hk : k < l.length) {z y : NodeV} (hy : y ∈ l) (hne : y ≠ l[k]) : y ∈ l.set k z := by
 obtain ⟨i, hi, e⟩ := List.getElem_of_mem hy
 by_cases hik : k = i
 ·subst hik
  exact absurd e.symm hne
 ·refine List.mem_iff_getElem.2 ⟨i, by simpa using hi, ?_⟩
  rw [List.getElem_set_ne hik, e]
theorem yy765 {l : List NodeV} {k : Nat} {z y : NodeV} (h : y ∈ l.set k z) : y = z ∨ y ∈ l := by
 rcases List.mem_or_eq_of_mem_set h with g | g
 ·exact .inr g
 ·exact .inl g
theorem yy735 {l X : List NodeV} {a : ActV} (h : rDo l a = (X, 0)) : (∀ y ∈ l, y.id ≠ a.id → y ∈ X) ∧ (∀ y ∈ X, y.id = a.id ∨ y ∈ l) := by
 by_cases h1 : a.kind = 1
 ·by_cases g1 : IdOk a.id ∧ IsName a.name
  ·cases g2 : rFind l a.id with
   | some k => rw [rDo_c2 h1 g1 g2] at h; injection h with _ h; omega
   | none =>
    by_cases g3 : rPlace l a.parent a.name 0 = 0
    ·by_cases g4 : 100 ≤ l.length
     ·rw [rDo_c4 h1 g1 g2 g3 g4] at h; injection h with _ h; omega
     ·rw [rDo_c5 h1 g1 g2 g3 g4] at h
      injection h with h _
      subst h
      refine ⟨fun y hy _ => ?_, fun y hy => ?_⟩
      ·rw [← List.take_append_drop (rAt l a.id) l] at hy
       rcases List.mem_append.1 hy with q | q
       ·exact List.mem_append_left _ q
       ·exact List.mem_append_right _ (List.mem_cons_of_mem _ q)
      ·rcases List.mem_append.1 hy with q | q
       ·exact .inr (List.mem_of_mem_take q)
       ·rcases List.mem_cons.1 q with q | q
        ·exact .inl (by rw [q]; rfl)
        ·exact .inr (List.mem_of_mem_drop q)
    ·rw [rDo_c3 h1 g1 g2 g3] at h; injection h with _ h; exact absurd h g3
  ·rw [rDo_c1 h1 g1] at h; injection h with _ h; omega
 by_cases h2 : a.kind = 2
 ·cases g2 : rFind l a.id with
  | none => rw [rDo_r1 h2 g2] at h; injection h with _ h; omega
  | some k =>
   by_cases g3 : ∃ y ∈ l, y.parent = a.id
   ·rw [rDo_r2 h2 g2 g3] at h; injection h with _ h; omega
   ·rw [rDo_r3 h2 g2 g3] at h
    injection h with h _
    subst h
    obtain ⟨hk, hid, _⟩ := yy21 g2
    refine ⟨fun y hy hne => ?_, fun y hy => ?_⟩
    ·rw [← List.take_append_drop k l] at hy
     rcases List.mem_append.1 hy with q | q
     ·exact List.mem_append_left _ q
     ·rw [List.drop_eq_getElem_cons hk] at q
      rcases List.mem_cons.1 q with q | q
      ·rw [q] at hne; exact absurd hid hne
      ·exact List.mem_append_right _ q
    ·rcases List.mem_append.1 hy with q | q
     ·exact .inr (List.mem_of_mem_take q)
     ·exact .inr (List.mem_of_mem_drop q)
 by_cases h3 : a.kind = 3
 ·by_cases g1 : IsName a.name
  ·cases g2 : rFind l a.id with
   | none => rw [rDo_m2 h3 g1 g2] at h; injection h with _ h; omega
   | some k =>
    obtain ⟨hk, hid, _⟩ := yy21 g2
    by_cases g3 : rPlace l a.parent a.name a.id = 0
    ·rw [rDo_m4 h3 g1 hk g2 g3] at h
     injection h with h _
     subst h
     refine ⟨fun y hy hne => yy407 hk hy (fun e => hne (by rw [e, hid])), fun y hy => ?_⟩
     rcases yy765 hy with q | q
     ·exact .inl (by rw [q]; exact hid)
     ·exact .inr q
    ·rw [rDo_m3 h3 g1 g2 g3] at h; injection h with _ h; exact absurd h g3
  ·rw [rDo_m1 h3 g1] at h; injection h with _ h; omega
 by_cases h4 : a.kind = 4
 ·cases g2 : rFind l a.id with
  | none => rw [rDo_e1 h4 g2] at h; injection h with _ h; omega
  | some k =>
   obtain ⟨hk, hid, _⟩ := yy21 g2
   rw [rDo_e h4 hk g2] at h
   split at h
   ·injection h with _ h; omega
   split at h
   ·rename_i g; injection h with _ h; exact absurd h (by omega)
   split at h
   ·injection h with _ h; omega
   ·injection h with h _
    subst h
    refine ⟨fun y hy hne => yy407 hk hy (fun e => hne (by rw [e, hid])), fun y hy => ?_⟩
    rcases yy765 hy with q | q
    ·exact .inl (by rw [q]; exact hid)
    ·exact .inr q
 ·rw [rDo_o h1 h2 h3 h4] at h; injection h with _ h; omega
theorem tch_id {l : List ActV} {a : ActV} (h : a ∈ l) : a.id ∈ tch l := by
 unfold tch
 rw [yy426]
 exact .inl (List.mem_flatMap.2 ⟨a, h, by simp [aIds]⟩)
theorem yy885 (l : List ActV) : (l.flatMap aIds).length ≤ 2 * l.length := by
 induction l with
 | nil => simp
 | cons a r ih =>
  have := yy615 a
  rw [List.flatMap_cons, List.length_append, List.length_cons]
  omega
theorem yy657 (l : List ActV) : (tch l).length ≤ 2 * l.length := by
 have h1 := yy208 (l.flatMap aIds) []
 rw [List.length_nil, Nat.zero_add] at h1
 exact Nat.le_trans h1 (yy885 l)
def nodeAt (l : List NodeV) (z : Int) : Option NodeV := l.find? fun y => decide (y.id = z)
theorem yy60 {l : List NodeV} (h : l.Pairwise fun a b => a.id < b.id) {z : Int} {y : NodeV} : nodeAt l z = some y ↔ y ∈ l ∧ y.id = z := by
 constructor
 ·intro e
  exact ⟨List.mem_of_find?_eq_some e, by simpa using List.find?_some e⟩
 ·rintro ⟨hy, e⟩
  cases hf : nodeAt l z with
  | none =>
   have := List.find?_eq_none.1 hf y hy
   exact absurd (decide_eq_true e) this
  | some x =>
   have h1 : x ∈ l := List.mem_of_find?_eq_some hf
   have h2 : x.id = z := by simpa using List.find?_some hf
   rw [srt_id h h1 hy (by rw [h2, e])]
theorem yy322 {l : List NodeV} {z : Int} (h : ∀ y ∈ l, y.id ≠ z) : nodeAt l z = none := List.find?_eq_none.2 fun y hy => by simpa using h y hy
theorem yy408 {l : List NodeV} (h : l.Pairwise fun a b => a.id < b.id) {k : Nat} (hk : k < l.length) : nodeAt l l[k].id = some l[k] := (yy60 h).2 ⟨List.getElem_mem hk, rfl⟩
theorem yy766 : ∀ {l m : List NodeV}, (l.Pairwise fun a b => a.id < b.id) → (m.Pairwise fun a b => a.id < b.id) → (∀ y, y ∈ l ↔ y ∈ m) → l = m
 | [], [], _, _, _ => rfl
 | [], b :: m, _, _, h => absurd ((h b).2 (List.mem_cons_self ..)) (by simp)
 | a :: l, [], _, _, h => absurd ((h a).1 (List.mem_cons_self ..)) (by simp)
 | a :: l, b :: m, h1, h2, h => by
  rw [List.pairwise_cons] at h1 h2
  have hab : a = b := by
   rcases List.mem_cons.1 ((h a).1 (List.mem_cons_self ..)) with e | e
   ·exact e
   rcases List.mem_cons.1 ((h b).2 (List.mem_cons_self ..)) with g | g
   ·exact g.symm
   have q1 := h2.1 a e
   have q2 := h1.1 b g
   omega
  subst hab
  rw [yy766 h1.2 h2.2 fun y => ?_]
  constructor
  ·intro hy
   rcases List.mem_cons.1 ((h y).1 (List.mem_cons_of_mem _ hy)) with e | e
   ·have := h1.1 y hy
    rw [e] at this
    omega
   ·exact e
  ·intro hy
   rcases List.mem_cons.1 ((h y).2 (List.mem_cons_of_mem _ hy)) with e | e
   ·have := h2.1 y hy
    rw [e] at this
    omega
   ·exact e
theorem yy658 {l m : List NodeV} (h1 : l.Pairwise fun a b => a.id < b.id) (h2 : m.Pairwise fun a b => a.id < b.id) (h : ∀ z, nodeAt l z = nodeAt m z) : l = m :=
 yy766 h1 h2 fun y => by
  constructor
  ·intro hy
   have := (yy60 h1).2 ⟨hy, rfl⟩
   rw [h] at this
   exact ((yy60 h2).1 this).1
  ·intro hy
   have := (yy60 h2).2 ⟨hy, rfl⟩
   rw [← h] at this
   exact ((yy60 h1).1 this).1
noncomputable def nodeF (a : ActV) (o : Option NodeV) : Option NodeV :=
 if a.kind = 1 then some (yy96 a) else if a.kind = 2 then none else if a.kind = 3 then o.map (fun y => ⟨y.id, a.parent, a.name, y.dir, y.text⟩) else o.map (fun y => ⟨y.id, y.parent, y.name, y.dir, dTxt y.text a.ops⟩)
theorem rDo_at {l X : List NodeV} {a : ActV} (hl : TreeM l) (h : rDo l a = (X, 0)) : nodeAt X a.id = nodeF a (nodeAt l a.id) := by
 have hX : TreeM X := by have := hl.does a; rw [h] at this; exact this
 by_cases h1 : a.kind = 1
 ·rw [nodeF, if_pos h1]
  by_cases g1 : IdOk a.id ∧ IsName a.name
  ·cases g2 : rFind l a.id with
   | some k => rw [rDo_c2 h1 g1 g2] at h; injection h with _ h; omega
   | none =>
    by_cases g3 : rPlace l a.parent a.name 0 = 0
    ·by_cases g4 : 100 ≤ l.length
     ·rw [rDo_c4 h1 g1 g2 g3 g4] at h; injection h with _ h; omega
     ·rw [rDo_c5 h1 g1 g2 g3 g4] at h
      injection h with h _
      refine (yy60 hX.srt).2 ⟨?_, rfl⟩
      rw [← h]
      simp
    ·rw [rDo_c3 h1 g1 g2 g3] at h; injection h with _ h; exact absurd h g3
  ·rw [rDo_c1 h1 g1] at h; injection h with _ h; omega
 by_cases h2 : a.kind = 2
 ·rw [nodeF, if_neg h1, if_pos h2]
  cases g2 : rFind l a.id with
  | none => rw [rDo_r1 h2 g2] at h; injection h with _ h; omega
  | some k =>
   by_cases g3 : ∃ y ∈ l, y.parent = a.id
   ·rw [rDo_r2 h2 g2 g3] at h; injection h with _ h; omega
   ·rw [rDo_r3 h2 g2 g3] at h
    injection h with h _
    obtain ⟨hk, hid, _⟩ := yy21 g2
    refine yy322 fun y hy e => ?_
    rw [← h] at hy
    have hs := List.pairwise_iff_getElem.1 hl.srt
    rcases List.mem_append.1 hy with q | q
    ·obtain ⟨j, hj, rfl⟩ := List.getElem_of_mem q
     rw [List.length_take] at hj
     rw [List.getElem_take] at e
     have := hs j k (by omega) hk (by omega)
     omega
    ·obtain ⟨j, hj, rfl⟩ := List.getElem_of_mem q
     rw [List.length_drop] at hj
     rw [List.getElem_drop] at e
     have := hs k (k + 1 + j) hk (by omega) (by omega)
     omega
 by_cases h3 : a.kind = 3
 ·rw [nodeF, if_neg h1, if_neg h2, if_pos h3]
  by_cases g1 : IsName a.name
  ·cases g2 : rFind l a.id with
   | none => rw [rDo_m2 h3 g1 g2] at h; injection h with _ h; omega
   | some k =>
    obtain ⟨hk, hid, _⟩ := yy21 g2
    by_cases g3 : rPlace l a.parent a.name a.id = 0
    ·rw [rDo_m4 h3 g1 hk g2 g3] at h
     injection h with h _
     have e := yy408 hl.srt hk
     rw [hid] at e
     rw [e]
     refine (yy60 hX.srt).2 ⟨?_, hid⟩
     rw [← h]
     exact List.mem_set hk _
    ·rw [rDo_m3 h3 g1 g2 g3] at h; injection h with _ h; exact absurd h g3
  ·rw [rDo_m1 h3 g1] at h; injection h with _ h; omega
 by_cases h4 : a.kind = 4
 ·rw [nodeF, if_neg h1, if_neg h2, if_neg h3]
  cases g2 : rFind l a.id with
  | none => rw [rDo_e1 h4 g2] at h; injection h with _ h; omega
  | some k =>
   obtain ⟨hk, hid, _⟩ := yy21 g2
   rw [rDo_e h4 hk g2] at h
   split at h
   ·injection h with _ h; omega
   split at h
   ·rename_i g; injection h with _ h; exact absurd h (by omega)
   split at h
   ·injection h with _ h; omega
   ·injection h with h _
    have e := yy408 hl.srt hk
    rw [hid] at e
    rw [e]
    refine (yy60 hX.srt).2 ⟨?_, hid⟩
    rw [← h]
    exact List.mem_set hk _
 ·rw [rDo_o h1 h2 h3 h4] at h; injection h with _ h; omega
theorem yy659 {l X : List NodeV} {a : ActV} (hl : TreeM l) (h : rDo l a = (X, 0)) {z : Int} (hz : z ≠ a.id) : nodeAt X z = nodeAt l z := by
 have hX : TreeM X := by have := hl.does a; rw [h] at this; exact this
 obtain ⟨k1, k2⟩ := yy735 h
 cases hf : nodeAt l z with
 | some y =>
  obtain ⟨h1, h2⟩ := (yy60 hl.srt).1 hf
  exact (yy60 hX.srt).2 ⟨k1 y h1 (by omega), h2⟩
 | none =>
  refine yy322 fun y hy e => ?_
  rcases k2 y hy with g | g
  ·omega
  ·rw [(yy60 hl.srt).2 ⟨g, e⟩] at hf
   cases hf
theorem yy509 {m : List ActV} : ∀ {T : List NodeV} {i : Nat}, TreeM T → (doR T m i).2.2 = 0 → ∀ {z : Int}, (∀ a ∈ m, z ≠ a.id) → nodeAt (doR T m i).1 z = nodeAt T z := by
 induction m with
 | nil => intro T i _ _ z _; rfl
 | cons a r ih =>
  intro T i hT he z hz
  by_cases h0 : (rDo T a).2 = 0
  ·have hs : rDo T a = ((rDo T a).1, 0) := by rw [← h0]
   rw [yy282 hs] at he ⊢
   rw [ih (hT.does a) he fun b hb => hz b (List.mem_cons_of_mem _ hb), yy659 hT hs (hz a (List.mem_cons_self ..))]
  ·rw [yy283 (X := (rDo T a).1) rfl h0] at he
   exact absurd he h0
theorem yy510 {m : List ActV} : ∀ {T Y : List NodeV} {i j : Nat}, TreeM T → TreeM Y → (doR T m i).2.2 = 0 → (doR Y m j).2.2 = 0 → ∀ {z : Int}, nodeAt T z = nodeAt Y z → nodeAt (doR T m i).1 z = nodeAt (doR Y m j).1 z := by
 induction m with
 | nil => intro T Y i j _ _ _ _ z h; exact h
 | cons a r ih =>
  intro T Y i j hT hY he hf z h
  by_cases h0 : (rDo T a).2 = 0
  ·by_cases h1 : (rDo Y a).2 = 0
   ·have hs : rDo T a = ((rDo T a).1, 0) := by rw [← h0]
    have ht : rDo Y a = ((rDo Y a).1, 0) := by rw [← h1]
    rw [yy282 hs] at he ⊢
    rw [yy282 ht] at hf ⊢
    refine ih (hT.does a) (hY.does a) he hf ?_
    by_cases hz : z = a.id
    ·subst hz
     rw [rDo_at hT hs, rDo_at hY ht, h]
    ·rw [yy659 hT hs hz, yy659 hY ht hz, h]
   ·rw [yy283 (X := (rDo Y a).1) rfl h1] at hf
    exact absurd hf h1
  ·rw [yy283 (X := (rDo T a).1) rfl h0] at he
   exact absurd he h0
theorem yy125 {T : List NodeV} {l : List ActV} (h : (doAllV T l).2.2 = 0) : rChk l = 0 ∧ doAllV T l = doR T l 0 ∧ (doR T l 0).2.2 = 0 := by
 unfold doAllV at h ⊢
 by_cases g : rChk l = 0
 ·rw [if_neg (fun q => q g)] at h ⊢
  exact ⟨g, rfl, h⟩
 ·rw [if_pos g] at h
  exact absurd h g
theorem yy54 {T : List NodeV} {l : List ActV} (hT : TreeM T) (h : (doAllV T l).2.2 = 0) : TreeM (doAllV T l).1 := by
 obtain ⟨_, e, h1⟩ := yy125 h
 rw [e]
 exact yy808 hT h1
theorem yy565 {T : List NodeV} {a b : List ActV} (hT : TreeM T) (ha : (doAllV T a).2.2 = 0) (hb : (doAllV T b).2.2 = 0) (hd : ∀ x ∈ a, ∀ y ∈ b, x.id ≠ y.id)
  (h1 : (doAllV (doAllV T b).1 a).2.2 = 0) (h2 : (doAllV (doAllV T a).1 b).2.2 = 0) : (doAllV (doAllV T b).1 a).1 = (doAllV (doAllV T a).1 b).1 := by
 have tX := yy54 hT ha
 have tY := yy54 hT hb
 have tU := yy54 tY h1
 have tV := yy54 tX h2
 obtain ⟨_, ea, ra⟩ := yy125 ha
 obtain ⟨_, eb, rb⟩ := yy125 hb
 obtain ⟨_, e1, r1⟩ := yy125 h1
 obtain ⟨_, e2, r2⟩ := yy125 h2
 refine yy658 tU.srt tV.srt fun z => ?_
 rw [e1, e2]
 by_cases hz : ∃ y ∈ b, z = y.id
 ·obtain ⟨y, hy, rfl⟩ := hz
  have na : ∀ x ∈ a, y.id ≠ x.id := fun x hx e => hd x hx y hy e.symm
  rw [yy509 tY r1 na]
  have q : nodeAt (doAllV T a).1 y.id = nodeAt T y.id := by rw [ea]; exact yy509 hT ra na
  rw [yy510 tX hT r2 rb q, eb]
 ·have nb : ∀ y ∈ b, z ≠ y.id := fun y hy e => hz ⟨y, hy, e⟩
  rw [yy509 tX r2 nb]
  have q : nodeAt (doAllV T b).1 z = nodeAt T z := by rw [eb]; exact yy509 hT rb nb
  rw [yy510 tY hT r1 ra q, ea]
theorem yy358 : ∀ {l pre : List ActV} {n : Nat}, chkR pre l n = 0 → ∀ a ∈ l, ¬ ABad a
 | [], _, _, _, a, ha => by cases ha
 | b :: l, pre, n, h, a, ha => by
  by_cases hb : ABad b
  ·rw [yy438 hb] at h; cases h
  rcases List.mem_cons.1 ha with rfl | ha
  ·exact hb
  by_cases hk : b.kind = 4
  ·by_cases he : rCheck b.ops = 0
   ·by_cases hp : ∃ x ∈ pre, x.kind = 4 ∧ x.id = b.id
    ·rw [yy280 hb hk he hp] at h; cases h
    ·rw [yy246 hb hk he hp] at h
     exact yy358 h a ha
   ·rw [yy350 hb hk he] at h
    omega
  ·rw [yy245 hb hk] at h
   exact yy358 h a ha
theorem yy511 {l : List ActV} (h : rChk l = 0) : ∀ a ∈ l, ¬ ABad a := by
 unfold rChk at h
 split at h
 ·cases h
 ·exact yy358 h
theorem ABad.id1 {a : ActV} (h : ¬ ABad a) : 1 ≤ a.id := by
 by_cases g : a.id < 1
 ·exact absurd (.inr (.inr (.inr (.inl g)))) h
 ·omega
theorem yy767 {l : List ActV} {k : OneK} (h : k ∈ eff l) : ∃ a ∈ l, a.id = k.id := by
 obtain ⟨i, hi, rfl⟩ := List.mem_map.1 h
 obtain ⟨a, ha, e⟩ := yy88.1 hi
 exact ⟨a, ha, by rw [yy154, e]⟩
theorem tch_of {l : List ActV} {a : ActV} (h : a ∈ l) {z : Int} (hz : z ∈ aIds a) : z ∈ tch l := by
 unfold tch
 rw [yy426]
 exact .inl (List.mem_flatMap.2 ⟨a, h, hz⟩)
theorem yy768 {l m : List ActV} (hm : rChk m = 0) (h : ∀ z ∈ tch l, ∀ b ∈ m, b.id ≠ z) : ∀ a ∈ l, (∀ k ∈ eff m, k.id ≠ a.id) ∧ ((a.kind = 1 ∨ a.kind = 3) → ∀ k ∈ eff m, k.id ≠ a.parent) := by
 intro a ha
 refine ⟨fun k hk e => ?_, fun h13 k hk e => ?_⟩
 ·obtain ⟨b, hb, g⟩ := yy767 hk
  exact h a.id (tch_id ha) b hb (by rw [g, e])
 ·obtain ⟨b, hb, g⟩ := yy767 hk
  by_cases h0 : a.parent = 0
  ·have := (yy511 hm b hb).imp id
   have := ABad.id1 (yy511 hm b hb)
   omega
  ·exact h a.parent (tch_of ha (by unfold aIds; rw [if_pos ⟨h13, h0⟩]; simp)) b hb (by rw [g, e])
def edE (id : Int) (A : Option Go.Addr) (c : Nat) (a : List CompV) : ActV := ⟨4, id, 0, [], false, A, c, a⟩
theorem edE_ok {id : Int} (h1 : 1 ≤ id) (h2 : id ≤ 1099511627776) (A : Option Go.Addr) (c : Nat) (a : List CompV) : ¬ ABad (edE id A c a) := by
 have e1 : (edE id A c a).kind = 4 := rfl
 have e2 : (edE id A c a).id = id := rfl
 have e3 : (edE id A c a).parent = 0 := rfl
 rintro (h | h | h | h | h | h | h | h)
 ·rw [e1] at h; omega
 ·rw [e1] at h; omega
 ·exact h (by rw [yy437 rfl]; rfl)
 ·rw [e2] at h; omega
 ·rw [e2] at h; omega
 ·rw [e3] at h; omega
 ·rw [e3] at h; omega
 ·rcases h.1 with g | g
  ·rw [e1] at g; omega
  ·rw [e1] at g; omega
theorem yy660 : ∀ {l : List CompV}, (∀ c ∈ l, Wh c) → insT l ≤ outS l
 | [], _ => by simp [insT]
 | c :: l, h => by
  have ih := yy660 (l := l) fun x hx => h x (List.mem_cons_of_mem _ hx)
  have e : insT (c :: l) = (cps c.text).length + insT l := by simp [insT]
  rw [e, yy69]
  rcases (h c (List.mem_cons_self ..)).cases with ⟨hk, _, ht⟩ | ⟨hk, _, ht⟩ | ⟨hk, _⟩
  ·rw [ht, yy257]; simp; omega
  ·rw [ht, yy257]; simp; omega
  ·rw [yy185 hk]; omega
theorem yy163 {id : Int} (h1 : 1 ≤ id) (h2 : id ≤ 1099511627776) (A : Option Go.Addr) (c : Nat) (a : List CompV) : rChk [edE id A c a] = (rCheck a : Int) := by
 rw [yy281 (by simp)]
 have hb := edE_ok h1 h2 A c a
 by_cases h : rCheck a = 0
 ·rw [yy246 hb rfl h (by simp), yy349, h]
  ·rfl
  ·have h3 := yy660 (ok_of h).wh
   have := (ok_of h).out1
   show ¬ 2000 < 0 + insT a
   omega
 ·rw [yy350 hb rfl h]
  rfl
theorem yy886 (id : Int) (A : Option Go.Addr) (c : Nat) (a : List CompV) : eff [edE id A c a] = [⟨id, a, true, false, false, false, 0, []⟩] := by
 unfold eff effIds effOne edE
 simp [tPut, tAt, yy79, oneZ]
theorem yy512 (id : Int) (k : OneK) (h : k.id = id) : getK0 [k] id = k := by
 unfold getK0
 rw [List.find?_cons, decide_eq_true h]
 rfl
theorem yy887 {id : Int} (h1 : 1 ≤ id) (h2 : id ≤ 1099511627776) {B : Option Go.Addr} {d : Nat} {a b : List CompV} (hb : rCheck b = 0) (ha : a ≠ []) {P : List CompV} (ho : rOver false b a = (P, 0)) :
  rRb [edE id B d b] [⟨id, a, true, false, false, false, 0, []⟩] = if rCheck P = 0 then ([edE id B d P], 0) else ([], (rCheck P : Int)) := by
 have hg := yy512 id ⟨id, a, true, false, false, false, 0, []⟩ rfl
 have hw : rWhy (edE id B d b) [⟨id, a, true, false, false, false, 0, []⟩] = 0 := by
  unfold rWhy
  rw [if_pos (show (edE id B d b).kind = 4 from rfl), show (edE id B d b).id = id from rfl, hg]
  rfl
 have hl : rbLeft (edE id B d b) [⟨id, a, true, false, false, false, 0, []⟩] = false := by
  unfold rbLeft
  rw [show (edE id B d b).id = id from rfl, hg]
  simp [edE]
 have hed : rbEdit (edE id B d b) [⟨id, a, true, false, false, false, 0, []⟩] := by
  unfold rbEdit
  rw [show (edE id B d b).id = id from rfl, hg]
  exact ⟨rfl, rfl, ha⟩
 have hov : rOver false (edE id B d b).ops (getK0 [⟨id, a, true, false, false, false, 0, []⟩] (edE id B d b).id).ops = (P, 0) := by
  rw [show (edE id B d b).id = id from rfl, hg]
  exact ho
 have ho1 := yy136 hw hl hed (by rw [hov])
 rw [hov] at ho1
 have hr : rbR [⟨id, a, true, false, false, false, 0, []⟩] [] [edE id B d b] = ([edE id B d P], 0) := by
  rw [rbR_go (by rw [ho1]), ho1]
  rw [rbR]
  rfl
 unfold rRb
 rw [hr, yy163 h1 h2, hb, yy163 h1 h2]
 by_cases hp : rCheck P = 0
 ·simp [hp]
 ·simp [hp]
theorem yy834 {id : Int} (h1 : 1 ≤ id) (h2 : id ≤ 1099511627776) {B : Option Go.Addr} {d : Nat} {b : List CompV} (hb : rCheck b = 0) :
  rRb [edE id B d b] [⟨id, [], true, false, false, false, 0, []⟩] = ([edE id B d b], 0) := by
 have hg := yy512 id ⟨id, [], true, false, false, false, 0, []⟩ rfl
 have hw : rWhy (edE id B d b) [⟨id, [], true, false, false, false, 0, []⟩] = 0 := by
  unfold rWhy
  rw [if_pos (show (edE id B d b).kind = 4 from rfl), show (edE id B d b).id = id from rfl, hg]
  rfl
 have hl : rbLeft (edE id B d b) [⟨id, [], true, false, false, false, 0, []⟩] = false := by
  unfold rbLeft
  rw [show (edE id B d b).id = id from rfl, hg]
  simp [edE]
 have hed : ¬ rbEdit (edE id B d b) [⟨id, [], true, false, false, false, 0, []⟩] := by
  unfold rbEdit
  rw [show (edE id B d b).id = id from rfl, hg]
  simp
 have ho1 := yy112 hw hl hed
 have hr : rbR [⟨id, [], true, false, false, false, 0, []⟩] [] [edE id B d b] = ([edE id B d b], 0) := by
  rw [rbR_go (by rw [ho1]), ho1]
  rw [rbR]
  rfl
 unfold rRb
 rw [hr, yy163 h1 h2, hb]
 simp
def yy24 (s : List Nat) : List NodeV := [⟨1, 0, [102], false, s⟩]
theorem do_edE {s : List Nat} {A : Option Go.Addr} {c : Nat} {a : List CompV} : doAllV (yy24 s) [edE 1 A c a] = if rCheck a ≠ 0 then ([], -1, (rCheck a : Int)) else if dErr s a ≠ 0 then ([], 0, (dErr s a : Int)) else (yy24 (dTxt s a), 1, 0) := by
 unfold doAllV
 rw [yy163 (by omega) (by omega)]
 by_cases h : rCheck a = 0
 ·rw [if_neg (by rw [h]; simp), if_neg (by rw [h]; simp)]
  have hf : rFind (yy24 s) (edE 1 A c a).id = some 0 := yy240 (by simp [yy24]) rfl fun j hj hj0 => by omega
  have hd := rDo_e (a := edE 1 A c a) (l := yy24 s) rfl (by simp [yy24]) hf
  rw [if_neg (by simp [yy24])] at hd
  by_cases g : dErr s a = 0
  ·rw [if_neg (by rw [g]; simp)]
   rw [if_neg (by show ¬ dErr s a ≠ 0; rw [g]; simp)] at hd
   change rDo (yy24 s) (edE 1 A c a) = (if 10000 < rTotal (yy24 (dTxt s a)) then (yy24 s, (4 : Int)) else (yy24 (dTxt s a), (0 : Int))) at hd
   have ht2 : rTotal (yy24 (dTxt s a)) ≤ 2000 := by
    have h3 := (yy495 g).2.2
    unfold rTotal yy24
    simp
    exact h3
   rw [if_neg (by omega)] at hd
   rw [yy282 hd]
   rfl
  ·rw [if_pos g]
   rw [if_pos (by show dErr s a ≠ 0; exact g)] at hd
   rw [yy283 hd (by show ((dErr s a : Nat) : Int) ≠ 0; omega)]
   rfl
 ·rw [if_pos (by omega), if_pos h]
theorem yy220 {x : ActV} {ks : List OneK} (hc : rChk [x] = 0) (h : rWhy x ks ≠ 0) : rRb [x] ks = ([], rWhy x ks) := by
 have e := yy247 h
 unfold rRb
 rw [yy285 (by rw [e]; exact h), e, if_neg (fun q => q hc), if_pos h]
theorem yy294 {x : ActV} {ks : List OneK} (hc : rChk [x] = 0) (h : rWhy x ks = 0) (hl : rbLeft x ks = true) : rRb [x] ks = ([], 0) := by
 have e := yy193 h hl
 have hr : rbR ks [] [x] = ([], 0) := by rw [rbR_go (by rw [e]), e, rbR]; rfl
 unfold rRb
 rw [hr]
 have h0 : rChk [] = 0 := by rw [yy281 (by simp), yy349 (by omega)]
 simp [hc, h0]
theorem yy295 {x : ActV} {ks : List OneK} (hc : rChk [x] = 0) (h : rWhy x ks = 0) (hl : rbLeft x ks = false) (he : ¬ rbEdit x ks) : rRb [x] ks = ([x], 0) := by
 have e := yy112 h hl he
 have hr : rbR ks [] [x] = ([x], 0) := by rw [rbR_go (by rw [e]), e, rbR]; rfl
 unfold rRb
 rw [hr]
 simp [hc]
theorem yy177 {x : ActV} {ks : List OneK} {P : List CompV} (hc : rChk [x] = 0) (h : rWhy x ks = 0) (hl : rbLeft x ks = false) (he : rbEdit x ks) (ho : rOver false x.ops (getK0 ks x.id).ops = (P, 0)) (hP : rChk [{ x with ops := P }] = 0) : rRb [x] ks = ([{ x with ops := P }], 0) := by
 have e := yy136 h hl he (by rw [ho])
 rw [ho] at e
 have hr : rbR ks [] [x] = ([{ x with ops := P }], 0) := by rw [rbR_go (by rw [e]), e, rbR]; rfl
 unfold rRb
 rw [hr]
 simp [hc, hP]
def rmE (id : Int) : ActV := ⟨2, id, 0, [], false, none, 0, []⟩
theorem yy835 {x : ActV} (h1 : x.kind = 1 ∨ x.kind = 2 ∨ x.kind = 3) (h2 : aKey x = aKey (aPlain x)) (h3 : 1 ≤ x.id ∧ x.id ≤ 1099511627776) (h4 : 0 ≤ x.parent ∧ x.parent ≤ 1099511627776) (h5 : x.kind = 2 ∨ rName x.name = true) : ¬ ABad x := by
 rintro (h | h | h | h | h | h | h | h)
 ·omega
 ·omega
 ·exact h h2
 ·omega
 ·omega
 ·omega
 ·omega
 ·rcases h5 with g | g
  ·omega
  ·rw [g] at h; exact absurd h.2 (by simp)
theorem chk_plain {x : ActV} (h1 : x.kind = 1 ∨ x.kind = 2 ∨ x.kind = 3) (h2 : aKey x = aKey (aPlain x)) (h3 : 1 ≤ x.id ∧ x.id ≤ 1099511627776) (h4 : 0 ≤ x.parent ∧ x.parent ≤ 1099511627776) (h5 : x.kind = 2 ∨ rName x.name = true) : rChk [x] = 0 := by
 rw [yy281 (by simp), yy245 (yy835 h1 h2 h3 h4 h5) (by omega), yy349 (by omega)]
theorem yy661 {id : Int} (h : 1 ≤ id ∧ id ≤ 1099511627776) : rChk [rmE id] = 0 := chk_plain (.inr (.inl rfl)) (by rw [yy436 rfl]; rfl) h (by show (0 : Int) ≤ 0 ∧ (0 : Int) ≤ 1099511627776; omega) (.inl rfl)
def insX : List CompV := [⟨2, 0, [120]⟩]
def insX2 : List CompV := [⟨1, 1, []⟩, ⟨2, 0, [120]⟩]
theorem yy296 : rCheck insX = 0 ∧ rBase insX = 0 ∧ sz ⟨2, 0, [120]⟩ = 1 ∧ Held1 insX := by
 have h1 : Nrm insX := yy425 (.inr ⟨rfl, rfl, by simp, _, V_one 120 (by omega)⟩) yy754 (fun d h => by simp at h)
 have h2 : rBase insX = 0 := by simp [insX, rBase, yy45]
 have h3 : rOut insX = 1 := by simp [insX, rOut, yy65, hld01, (V_one 120 (by omega)).loose]
 refine ⟨?_, h2, by rw [sz_two rfl, cps_of (V_one 120 (by omega))]; rfl, ⟨fun y hy => by rw [List.mem_singleton.1 hy]; exact yy855 _ _ _ (by omega) (by omega) ⟨fun z hz => by rw [List.mem_singleton.1 hz]; omega, by simp⟩, by simp [insX], by simp [insX, tlen]⟩⟩
 rw [rCheck, yy168 h1, h2, h3]
 simp [insX]
theorem yy359 : rOver false insX insX = (insX2, 0) := by
 obtain ⟨a1, a2, a3, _⟩ := yy296
 have h := Ov.pass (f := false) insX ⟨2, 0, [120]⟩ [] _ (fun h => by have := h.2; revert this; decide) rfl (.puts ⟨2, 0, [120]⟩ [] [] [] rfl (.inr (by decide)) .nil)
 rw [a3] at h
 rw [yy342 a1 a1 rfl h]
 simp [yy38, nRun, nStep, nStart, NS.flush, keepOf, textOf, goneOf, hld01, insX2]
theorem yy465 : rCheck insX2 = 0 := by
 have h1 : Nrm insX2 := yy425 (.inl ⟨.inl rfl, by show (1 : Int) ≤ 1; omega, rfl⟩) (yy425 (.inr ⟨rfl, rfl, by simp, _, V_one 120 (by omega)⟩) yy754 (fun d h => by simp at h)) (fun d h => by
  simp at h
  subst h
  decide)
 have h2 : rBase insX2 = 1 := by simp [insX2, rBase, yy45, hld01]
 have h3 : rOut insX2 = 2 := by
  simp [insX2, rOut, yy65, hld01, (V_one 120 (by omega)).loose]
  rfl
 rw [rCheck, yy168 h1, h2, h3]
 simp [insX2]
def awK : List OneK := [⟨1, insX, true, false, false, false, 0, []⟩, ⟨2, [], false, true, false, false, 0, []⟩]
theorem aw_eff (A : Option Go.Addr) : eff [edE 1 A 1 insX, rmE 2] = awK := rfl
theorem yy513 : getK0 awK 1 = ⟨1, insX, true, false, false, false, 0, []⟩ := rfl
theorem yy662 : getK0 awK 2 = ⟨2, [], false, true, false, false, 0, []⟩ := rfl
theorem yy888 (A : Option Go.Addr) (c : Nat) : rRb [edE 1 A c insX] awK = ([edE 1 A c insX2], 0) := by
 refine yy177 (by rw [yy163 (by omega) (by omega), yy296.1]; rfl) ?_ ?_ ?_ yy359 (by
  show rChk [edE 1 A c insX2] = 0
  rw [yy163 (by omega) (by omega), yy465]
  rfl)
 ·unfold rWhy
  rw [if_pos (show (edE 1 A c insX).kind = 4 from rfl), show (edE 1 A c insX).id = 1 from rfl, yy513]
  rfl
 ·unfold rbLeft
  rw [show (edE 1 A c insX).id = 1 from rfl, yy513]
  simp [edE]
 ·unfold rbEdit
  rw [show (edE 1 A c insX).id = 1 from rfl, yy513]
  exact ⟨rfl, rfl, by simp [insX]⟩
theorem yy889 (A : Option Go.Addr) (c : Nat) : rRb [edE 2 A c insX] awK = ([], 12) := by
 have hw : rWhy (edE 2 A c insX) awK = 12 := by
  unfold rWhy
  rw [if_pos (show (edE 2 A c insX).kind = 4 from rfl), show (edE 2 A c insX).id = 2 from rfl, yy662]
  rfl
 rw [yy220 (by rw [yy163 (by omega) (by omega), yy296.1]; rfl) (by rw [hw]; decide), hw]
theorem aw_rm : rRb [rmE 2] awK = ([], 0) := by
 refine yy294 (yy661 (by omega)) ?_ ?_
 ·unfold rWhy
  rw [show (rmE 2).id = 2 from rfl, yy662]
  rfl
 ·unfold rbLeft
  rw [show (rmE 2).id = 2 from rfl, yy662]
  rfl
theorem aw_why : rWhy (rmE 1) awK = 13 := by
 unfold rWhy
 rw [show (rmE 1).id = 1 from rfl, yy513]
 rfl
end Go.Proofs.YtjpjdkdbgjipnaaDoor
