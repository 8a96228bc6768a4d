/- Two that edit one file, and a row of them: what the later one becomes does behind the others what it did. No condition. (Merged of 6 texts.) -/
import Derived.Test.YtjpjdkdbgjipnaaDoorV26
import Derived.Test.YtjpjdkdbgjipnaaDoorV36
import Derived.Test.YtjpjdkdbgjipnaaDoorV18
import Derived.Test.YtjpjdkdbgjipnaaDoorV46
import Derived.Test.YtjpjdkdbgjipnaaDoorV20
import Derived.Deep.CutRange
import Derived.Deep.DeepCutAuto
import Derived.Test.YtjpjdkdbgjipnaaDoorV6
import Derived.Test.YtjpjdkdbgjipnaaDoorV44
namespace Go.Proofs.YtjpjdkdbgjipnaaDoor
theorem yy157 (c : CompV) (l : List CompV) : tlen (c :: l) = c.text.length + tlen l := by simp [tlen]
theorem yy576 {c : CompV} (h : c.kind ≠ 2) (l : List CompV) (n : Nat) : tlen (chop c l n) ≤ tlen l := by
 unfold chop
 split
 ·exact Nat.le_refl _
 ·rw [yy157, cut, if_neg h]
  simp
theorem Ov.text {f : Bool} {a b o : List CompV} (h : Ov f a b o) : tlen o ≤ tlen a := by
 induction h with
 | nil => exact Nat.le_refl _
 | puts c a b o _ _ _ ih => rw [yy157, yy157]; omega
 | pass a d b o _ _ _ ih => rw [yy157]; simp; exact ih
 | both c a d b o n hc _ _ _ ih =>
  have h1 := yy576 hc a n
  have h2 := yy157 c a
  rw [yy75]
  have h3 : tlen (if d.kind = 1 then [piece c n] else []) = 0 := by
   split
   ·rw [yy157, piece, if_neg hc]
    rfl
   ·rfl
  omega
theorem yy498 (f : Bool) (a b : List CompV) : tlen (rOver f a b).1 ≤ tlen a := by
 by_cases h : (rOver f a b).2 = 0
 ·obtain ⟨oa, ob, he⟩ := yy733 h
  obtain ⟨d, hd⟩ := yy497 f oa ob he
  obtain ⟨o, ho, e, _⟩ := hd.raw
  rw [hd.over]
  show tlen d ≤ _
  rw [e]
  exact Nat.le_trans (yy235 o) ho.text
 ·rw [yy561 h]
  exact Nat.zero_le _
def ActB (a : ActV) : Prop := ActH a ∧ a.name.length ≤ 4000 ∧ tlen a.ops ≤ 4000
theorem ActB.ok {a : ActV} (h : ActB a) : ActOk a := ⟨h.1.1, h.2.1, h.1.2.1.fine, h.2.2⟩
open Classical in
noncomputable def passF (a : ActV) (y : OneK) : List CompV × Nat := if a.kind = 4 ∧ y.edited = true ∧ y.ops ≠ [] then rOver false a.ops y.ops else (a.ops, 0)
theorem yy499 (a : ActV) (y : OneK) : tlen (passF a y).1 ≤ tlen a.ops := by
 unfold passF
 split
 ·exact yy498 _ _ _
 ·exact Nat.le_refl _
theorem yy500 {a : ActV} {ks : List OneK} (h : rWhy a ks = 0) (hl : rbLeft a ks = false) (h0 : (passF a (getK0 ks a.id)).2 = 0) : rbOne a ks = (some { a with ops := (passF a (getK0 ks a.id)).1 }, 0) := by
 by_cases he : rbEdit a ks
 ·have e : passF a (getK0 ks a.id) = rOver false a.ops (getK0 ks a.id).ops := if_pos he
  rw [e] at h0 ⊢
  exact yy97 h hl he h0
 ·have e : passF a (getK0 ks a.id) = (a.ops, 0) := if_neg he
  rw [e, yy139 h hl he]
theorem yy260 {a : ActV} {ks : List OneK} (h : rWhy a ks = 0) (hl : rbLeft a ks = false) (h0 : (passF a (getK0 ks a.id)).2 ≠ 0) : rbOne a ks = (none, ((passF a (getK0 ks a.id)).2 : Int)) := by
 by_cases he : rbEdit a ks
 ·have e : passF a (getK0 ks a.id) = rOver false a.ops (getK0 ks a.id).ops := if_pos he
  rw [e] at h0 ⊢
  exact yy259 h hl he h0
 ·have e : passF a (getK0 ks a.id) = (a.ops, 0) := if_neg he
  rw [e] at h0
  exact absurd rfl h0
end Go.Proofs.YtjpjdkdbgjipnaaDoor
namespace Go.Proofs.YtjpjdkdbgjipnaaDoor
open Go.RowKit Go.Deep
set_option maxHeartbeats 8000000 in
set_option maxRecDepth 100000 in
theorem yy508 (a : ActV) (y : OneV) (hk : Held1 a.ops) (hnm : a.name.length ≤ 1048576) (hy : Held1 y.k.ops) (w : World) (hA : CompsC w a.opsA a.opsC a.ops) (hY : CompsC w y.opsA y.opsC y.k.ops) :
  Calls Tryd.prog 37 #[.agg (yy0 a).toArray, .agg (yy8 y).toArray] w fun e w' => ∃ A2 c2, e = .returned (.tuple #[.agg (yy0 { a with opsA := A2, opsC := c2, ops := (passF a y.k).1 }).toArray, .int .i64 ((passF a y.k).2 : Int)]) ∧ (passF a y.k).1.length ≤ c2 ∧ c2 ≤ maxLen ∧ Held1 (passF a y.k).1 ∧ w'.ownsRow w.heap.size 51 3 (.slice A2 (passF a y.k).1.length c2) (passF a y.k).1.length ((passF a y.k).1.flatMap yy2) ∧ Below w.heap.size w w' := by
 have HA := xh (fun (W : World) (h : Below w.heap.size w W) => hA.below h)
 have HY := xh (fun (W : World) (h : Below w.heap.size w W) => hY.below h)
 have HHA := xh hk
 have HHY := xh hy
 have HNM := xh hnm
 clear hA hY hk hy hnm
 obtain ⟨ak, ai, ap, an, ad, aA, aC, ao⟩ := a
 obtain ⟨⟨xi, xo, xe, xr, xc, xm, xp, xn⟩, xA, xC⟩ := y
 have HPT : Hid ((ak = 4 ∧ xe = true ∧ xo ≠ []) → passF ⟨ak, ai, ap, an, ad, aA, aC, ao⟩ ⟨xi, xo, xe, xr, xc, xm, xp, xn⟩ = rOver false ao xo) := xh (fun h => if_pos h)
 have HPN : Hid (¬ (ak = 4 ∧ xe = true ∧ xo ≠ []) → passF ⟨ak, ai, ap, an, ad, aA, aC, ao⟩ ⟨xi, xo, xe, xr, xc, xm, xp, xn⟩ = (ao, 0)) := xh (fun h => if_neg h)
 simp only at HA HY HHA HHY HNM ⊢
 generalize passF ⟨ak, ai, ap, an, ad, aA, aC, ao⟩ ⟨xi, xo, xe, xr, xc, xm, xp, xn⟩ = Q at HPT HPN ⊢
 obtain ⟨P, q⟩ := Q
 simp only
 unfold yy0 yy8
 simp only
 obtain ⟨g, hg⟩ : ∃ g, g = w.heap.size := ⟨_, rfl⟩
 have HR1 := xh (((yy62 w 46 (.int .i64 ak) (.int .i64 ai) (.int .i64 ap) (.string (bstr an)) (.bool ad) (.slice aA ao.length aC)).alloc (Obj.cells #[.int .i64 xi, .slice xA xo.length xC, .bool xe, .bool xr, .bool xc, .bool xm, .int .i64 xp, .string (bstr xn)] 48)).alloc (Obj.cells #[.int .i64 0, .int .i64 0, .int .i64 0, .string { data := #[] }, .bool false, .slice none 0 0] 46))
 have HR2 := xh ((yy32 (w.alloc (.cells #[.int .i64 ak, .int .i64 ai, .int .i64 ap, .string (bstr an), .bool ad, .slice aA ao.length aC] 46)) 48 (.int .i64 xi) (.slice xA xo.length xC) (.bool xe) (.bool xr) (.bool xc) (.bool xm) (.int .i64 xp) (.string (bstr xn))).alloc (Obj.cells #[.int .i64 0, .int .i64 0, .int .i64 0, .string { data := #[] }, .bool false, .slice none 0 0] 46))
 have HR3 := xh (yy62 ((w.alloc (.cells #[.int .i64 ak, .int .i64 ai, .int .i64 ap, .string (bstr an), .bool ad, .slice aA ao.length aC] 46)).alloc (.cells #[.int .i64 xi, .slice xA xo.length xC, .bool xe, .bool xr, .bool xc, .bool xm, .int .i64 xp, .string (bstr xn)] 48)) 46 (.int .i64 0) (.int .i64 0) (.int .i64 0) (.string { data := #[] }) (.bool false) (.slice none 0 0))
 have HB1 : Hid (Below w.heap.size w _) := xh ((((Below.refl w.heap.size w).alloc (Nat.le_refl _) (.cells #[.int .i64 ak, .int .i64 ai, .int .i64 ap, .string (bstr an), .bool ad, .slice aA ao.length aC] 46)).alloc (by simp) (.cells #[.int .i64 xi, .slice xA xo.length xC, .bool xe, .bool xr, .bool xc, .bool xm, .int .i64 xp, .string (bstr xn)] 48)).alloc (by simp; omega) (.cells #[.int .i64 0, .int .i64 0, .int .i64 0, .string { data := #[] }, .bool false, .slice none 0 0] 46))
 rw [World.size_alloc, World.size_alloc, ← hg] at HR3
 rw [World.size_alloc, ← hg] at HR2
 rw [← hg] at HR1 HB1 HA HY
 have HG := xh hg
 clear hg
 obtain ⟨W0, HW0⟩ : ∃ x, Hid ((((w.alloc (.cells #[.int .i64 ak, .int .i64 ai, .int .i64 ap, .string (bstr an), .bool ad, .slice aA ao.length aC] 46)).alloc (.cells #[.int .i64 xi, .slice xA xo.length xC, .bool xe, .bool xr, .bool xc, .bool xm, .int .i64 xp, .string (bstr xn)] 48)).alloc (.cells #[.int .i64 0, .int .i64 0, .int .i64 0, .string { data := #[] }, .bool false, .slice none 0 0] 46)) = x) := ⟨_, xh rfl⟩
 rw [HW0.out] at HR1 HR2 HR3 HB1
 rw [← HG.out]
 go_enter Tryd.func37, Tryd.ntmps37
 go_upto_region 1 with fail
 rw [← HG.out, HW0.out]
 clear HW0
 obtain ⟨bb, HBB⟩ : ∃ bb : Bool, Hid (bb = true ↔ ak = 4 ∧ xe = true ∧ xo ≠ []) := ⟨@decide _ (Classical.propDecidable _), xh (@decide_eq_true_iff _ (Classical.propDecidable _))⟩
 go_upto_region 2 with fail
 go_cut [19] from 7 to 19 (fun s wc => s = .bool bb ∧ wc = W0)
 case first =>
  obtain ⟨y0, y1, y2, y3, y4, y5⟩ := yy11 HR1.out
  obtain ⟨x0, x1, x2, x3, x4, x5, x6, x7⟩ := yy10 HR2.out
  clear y1 y2 y3 y4 y5 x0 x3 x4 x5 x6 x7
  by_cases h4 : ak = 4
  ·obtain rfl : ak = 4 := h4
   cases xe with
   | false =>
    have HE : Hid (bb = false) := xh (by rw [Bool.eq_false_iff]; intro h; exact absurd (HBB.out.1 h).2.1 (by simp))
    go_wp2
    go_meet
    case rel => exact ⟨by rw [HE.out], rfl⟩
   | true =>
    by_cases h0 : xo = []
    ·subst h0
     have HE : Hid (bb = false) := xh (by rw [Bool.eq_false_iff]; intro h; exact (HBB.out.1 h).2.2 rfl)
     go_wp2
     go_meet
     case rel => exact ⟨by rw [HE.out], rfl⟩
    ·have HE : Hid (bb = true) := xh (HBB.out.2 ⟨rfl, rfl, h0⟩)
     have hlen : 0 < xo.length := Nat.pos_of_ne_zero (fun h => h0 (List.length_eq_zero_iff.1 h))
     have hlenI : (0 : Int) < (xo.length : Int) := by omega
     clear h0
     go_wp2
     go_meet
     case rel => exact ⟨by rw [HE.out], rfl⟩
  ·have d4 : (ak == 4) = false := beq_eq_false_iff_ne.2 h4
   have HE : Hid (bb = false) := xh (by rw [Bool.eq_false_iff]; intro h; exact h4 (HBB.out.1 h).1)
   clear h4
   go_wp2
   go_meet
   case rel => exact ⟨by rw [HE.out], rfl⟩
 case rest =>
  obtain ⟨rfl, rfl⟩ := hcut
  have hlg := HR1.out.lt
  have HLG := xh hlg
  clear hlg
  go_upto_if 19 with fail
  go_cut [6] from 20 to 28 (fun s6 wx => ∃ A' c', s6 = .int .i64 (q : Int) ∧ World.rowIs wx g 46 6 (sixV (.int .i64 ak) (.int .i64 ai) (.int .i64 ap) (.string (bstr an)) (.bool ad) (.slice A' P.length c')) ∧ World.rowIs wx (g + 1 + 1) 46 6 (sixV (.int .i64 0) (.int .i64 0) (.int .i64 0) (.string { data := #[] }) (.bool false) (.slice none 0 0)) ∧ yy6 wx A' P ∧ Held1 P ∧ Below g w wx)
  case first =>
   cases bb with
   | false =>
    have h := HPN.out (fun h => absurd (HBB.out.2 h) (by simp))
    injection h with h1 h2
    subst h1 h2
    go_wp2
    go_meet
    case rel => exact ⟨aA, aC, rfl, HR1.out, HR3.out, (HA.out _ HB1.out).1, HHA.out, HB1.out⟩
   | true =>
    have HO := xh (HPT.out (HBB.out.1 rfl))
    have GO := xh (yy143 aA aC ao xA xC xo HHA.out.max HHY.out.max HHA.out.fine HHY.out.fine false wc (HA.out _ HB1.out) (HY.out _ HB1.out))
    rw [← HO.out] at GO
    obtain ⟨y0, y1, y2, y3, y4, y5⟩ := yy11 HR1.out
    obtain ⟨x0, x1, x2, x3, x4, x5, x6, x7⟩ := yy10 HR2.out
    clear y0 y1 y2 y3 y4 x0 x2 x3 x4 x5 x6 x7
    go_wp2_with fail
    refine (GO.out).mono ?_
    rintro e w2 ⟨⟨A2, c2, rfl, hown⟩, hh, hb⟩
    have HRA := xh (HR1.out.of_block (hb.block _ HR1.out.lt))
    have HRC := xh (HR3.out.of_block (hb.block _ HR3.out.lt))
    have HBA : Hid (Below g w w2) := xh (HB1.out.trans (hb.mono (Nat.le_of_lt HLG.out)))
    have HOWN := xh hown
    have HHP := xh hh
    clear y5 x1 hb hown hh GO
    have h5 := HRA.out.cell (i := 5) (by omega)
    have f5 := HRA.out.frozen 5
    go_wp2
    go_meet
    case rel => exact ⟨A2, c2, rfl, (HRA.out.set 5 (.slice A2 P.length c2)).congr fun i hi => by rcases (show i = 0 ∨ i = 1 ∨ i = 2 ∨ i = 3 ∨ i = 4 ∨ i = 5 by omega) with rfl | rfl | rfl | rfl | rfl | rfl <;> rfl, HRC.out.setOther (a := ⟨g, 5, none⟩) (by show g + 1 + 1 ≠ g; omega) _, yy4.of_own (ownsRow_setCell_below (a := ⟨g, 5, none⟩) HOWN.out HLG.out _), HHP.out, HBA.out.setCell (p := ⟨g, 5, none⟩) (Nat.le_refl g) _⟩
  case rest =>
   clear HR1 HR2 HR3 HB1 HA HY HLG
   obtain ⟨A1, c1, rfl, hr1, hr3, hc, hh, hb⟩ := hcut
   have HR1 := xh hr1
   have HR3 := xh hr3
   have HB1 := xh hb
   have HHP := xh hh
   have GO := xh (yy376 ⟨ak, ai, ap, an, ad, A1, c1, P⟩ hh HNM.out wc hc)
   unfold yy0 at GO
   simp only at GO
   clear hr1 hr3 hc hh hb
   obtain ⟨y0, y1, y2, y3, y4, y5⟩ := yy11 HR1.out
   go_wp2_with fail
   refine (GO.out).mono ?_
   rintro e w2 ⟨⟨A2, c2, rfl, hl1, hl2, hown⟩, hb⟩
   have HRC := xh (HR3.out.of_block (hb.block _ HR3.out.lt))
   have HBA : Hid (Below g w w2) := xh (HB1.out.trans (hb.mono (Nat.le_of_lt HR1.out.lt)))
   have HOWN := xh hown
   have HLT : Hid (g + 1 + 1 < wc.heap.size) := xh HR3.out.lt
   have HRM := xh (And.intro hl1 hl2)
   clear y0 y1 y2 y3 y4 y5 hb hown hl1 hl2 GO HR1 HR3 HB1
   obtain ⟨⟨a0, f0⟩, ⟨a1, f1⟩, ⟨a2, f2⟩, ⟨a3, f3⟩, ⟨a4, f4⟩, ⟨a5, f5⟩, hres⟩ := yy482 HRC.out (.int .i64 ak) (.int .i64 ai) (.int .i64 ap) (.string (bstr an)) (.bool ad) (.slice A2 P.length c2)
   have HRES := xh (yy625 hres)
   clear hres
   go_wp2
   refine bodyPost_ret (yy42 rfl _ _ (g + 1 + 1) 46 #[.int .i64 ak, .int .i64 ai, .int .i64 ap, .string (bstr an), .bool ad, .slice A2 P.length c2] (0, 0) _ rfl HRES.out Tryd.underlying46 rfl (by kernel_rfl)) rfl ?_
   exact ⟨A2, c2, rfl, HRM.out.1, HRM.out.2, HHP.out, yy34 (yy483 HOWN.out HLT.out _ _ _ _ _ _) (by have := HLT.out; omega), yy250 HBA.out (by omega) _ _ _ _ _ _⟩
end Go.Proofs.YtjpjdkdbgjipnaaDoor
namespace Go.Proofs.YtjpjdkdbgjipnaaDoor
theorem yy603 {T : List NodeV} {l : List ActV} (h : (doAllV T l).2.2 = 0) : rChk l = 0 ∧ doAllV T l = doR T l 0 ∧ (doR T l 0).2.2 = 0 := by
 unfold doAllV at h ⊢
 by_cases g : rChk l = 0
 ·rw [if_neg (fun q => q g)] at h ⊢
  exact ⟨g, rfl, h⟩
 ·rw [if_pos g] at h
  exact absurd h g
theorem yy455 {T : List NodeV} {l : List ActV} (hT : TreeM T) (h : (doAllV T l).2.2 = 0) : TreeM (doAllV T l).1 := by
 obtain ⟨_, e, h1⟩ := yy603 h
 rw [e]
 exact yy681 hT h1
def edE (id : Int) (A : Option Go.Addr) (c : Nat) (a : List CompV) : ActV := ⟨4, id, 0, [], false, A, c, a⟩
theorem edE_ok {id : Int} (h1 : 1 ≤ id) (h2 : id ≤ 1099511627776) (A : Option Go.Addr) (c : Nat) (a : List CompV) : ¬ ABad (edE id A c a) := by
 have e1 : (edE id A c a).kind = 4 := rfl
 have e2 : (edE id A c a).id = id := rfl
 have e3 : (edE id A c a).parent = 0 := rfl
 rintro (h | h | h | h | h | h | h | h)
 ·rw [e1] at h; omega
 ·rw [e1] at h; omega
 ·exact h (by rw [yy331 rfl]; rfl)
 ·rw [e2] at h; omega
 ·rw [e2] at h; omega
 ·rw [e3] at h; omega
 ·rw [e3] at h; omega
 ·rcases h.1 with g | g
  ·rw [e1] at g; omega
  ·rw [e1] at g; omega
theorem yy536 : ∀ {l : List CompV}, (∀ c ∈ l, Wh c) → insT l ≤ outS l
 | [], _ => by simp [insT]
 | c :: l, h => by
  have ih := yy536 (l := l) fun x hx => h x (List.mem_cons_of_mem _ hx)
  have e : insT (c :: l) = (cps c.text).length + insT l := by simp [insT]
  rw [e, yy57]
  rcases (h c (List.mem_cons_self ..)).cases with ⟨hk, _, ht⟩ | ⟨hk, _, ht⟩ | ⟨hk, _⟩
  ·rw [ht, yy186]; simp; omega
  ·rw [ht, yy186]; simp; omega
  ·rw [yy133 hk]; omega
theorem yy209 {id : Int} (h1 : 1 ≤ id) (h2 : id ≤ 1099511627776) (A : Option Go.Addr) (c : Nat) (a : List CompV) : rChk [edE id A c a] = (rCheck a : Int) := by
 rw [yy199 (by simp)]
 have hb := edE_ok h1 h2 A c a
 by_cases h : rCheck a = 0
 ·rw [yy257 hb rfl h (by simp), yy255, h]
  ·rfl
  ·have h3 := yy536 (ok_of h).wh
   have := (ok_of h).out1
   show ¬ 2000 < 0 + insT a
   omega
 ·rw [yy332 hb rfl h]
  rfl
theorem yy752 (id : Int) (A : Option Go.Addr) (c : Nat) (a : List CompV) : eff [edE id A c a] = [⟨id, a, true, false, false, false, 0, []⟩] := by
 unfold eff effIds effOne edE
 simp [tPut, tAt, yy70, oneZ]
theorem yy398 (id : Int) (k : OneK) (h : k.id = id) : getK0 [k] id = k := by
 unfold getK0
 rw [List.find?_cons, decide_eq_true h]
 rfl
theorem yy753 {id : Int} (h1 : 1 ≤ id) (h2 : id ≤ 1099511627776) {B : Option Go.Addr} {d : Nat} {a b : List CompV} (hb : rCheck b = 0) (ha : a ≠ []) {P : List CompV} (ho : rOver false b a = (P, 0)) :
  rRb [edE id B d b] [⟨id, a, true, false, false, false, 0, []⟩] = if rCheck P = 0 then ([edE id B d P], 0) else ([], (rCheck P : Int)) := by
 have hg := yy398 id ⟨id, a, true, false, false, false, 0, []⟩ rfl
 have hw : rWhy (edE id B d b) [⟨id, a, true, false, false, false, 0, []⟩] = 0 := by
  unfold rWhy
  rw [if_pos (show (edE id B d b).kind = 4 from rfl), show (edE id B d b).id = id from rfl, hg]
  rfl
 have hl : rbLeft (edE id B d b) [⟨id, a, true, false, false, false, 0, []⟩] = false := by
  unfold rbLeft
  rw [show (edE id B d b).id = id from rfl, hg]
  simp [edE]
 have hed : rbEdit (edE id B d b) [⟨id, a, true, false, false, false, 0, []⟩] := by
  unfold rbEdit
  rw [show (edE id B d b).id = id from rfl, hg]
  exact ⟨rfl, rfl, ha⟩
 have hov : rOver false (edE id B d b).ops (getK0 [⟨id, a, true, false, false, false, 0, []⟩] (edE id B d b).id).ops = (P, 0) := by
  rw [show (edE id B d b).id = id from rfl, hg]
  exact ho
 have ho1 := yy97 hw hl hed (by rw [hov])
 rw [hov] at ho1
 have hr : rbR [⟨id, a, true, false, false, false, 0, []⟩] [] [edE id B d b] = ([edE id B d P], 0) := by
  rw [rbR_go (by rw [ho1]), ho1]
  rw [rbR]
  rfl
 unfold rRb
 rw [hr, yy209 h1 h2, hb, yy209 h1 h2]
 by_cases hp : rCheck P = 0
 ·simp [hp]
 ·simp [hp]
theorem yy707 {id : Int} (h1 : 1 ≤ id) (h2 : id ≤ 1099511627776) {B : Option Go.Addr} {d : Nat} {b : List CompV} (hb : rCheck b = 0) :
  rRb [edE id B d b] [⟨id, [], true, false, false, false, 0, []⟩] = ([edE id B d b], 0) := by
 have hg := yy398 id ⟨id, [], true, false, false, false, 0, []⟩ rfl
 have hw : rWhy (edE id B d b) [⟨id, [], true, false, false, false, 0, []⟩] = 0 := by
  unfold rWhy
  rw [if_pos (show (edE id B d b).kind = 4 from rfl), show (edE id B d b).id = id from rfl, hg]
  rfl
 have hl : rbLeft (edE id B d b) [⟨id, [], true, false, false, false, 0, []⟩] = false := by
  unfold rbLeft
  rw [show (edE id B d b).id = id from rfl, hg]
  simp [edE]
 have hed : ¬ rbEdit (edE id B d b) [⟨id, [], true, false, false, false, 0, []⟩] := by
  unfold rbEdit
  rw [show (edE id B d b).id = id from rfl, hg]
  simp
 have ho1 := yy139 hw hl hed
 have hr : rbR [⟨id, [], true, false, false, false, 0, []⟩] [] [edE id B d b] = ([edE id B d b], 0) := by
  rw [rbR_go (by rw [ho1]), ho1]
  rw [rbR]
  rfl
 unfold rRb
 rw [hr, yy209 h1 h2, hb]
 simp
def yy29 (s : List Nat) : List NodeV := [⟨1, 0, [102], false, s⟩]
theorem do_edE {s : List Nat} {A : Option Go.Addr} {c : Nat} {a : List CompV} : doAllV (yy29 s) [edE 1 A c a] = if rCheck a ≠ 0 then ([], -1, (rCheck a : Int)) else if dErr s a ≠ 0 then ([], 0, (dErr s a : Int)) else (yy29 (dTxt s a), 1, 0) := by
 unfold doAllV
 rw [yy209 (by omega) (by omega)]
 by_cases h : rCheck a = 0
 ·rw [if_neg (by rw [h]; simp), if_neg (by rw [h]; simp)]
  have hf : rFind (yy29 s) (edE 1 A c a).id = some 0 := yy175 (by simp [yy29]) rfl fun j hj hj0 => by omega
  have hd := rDo_e (a := edE 1 A c a) (l := yy29 s) rfl (by simp [yy29]) hf
  rw [if_neg (by simp [yy29])] at hd
  by_cases g : dErr s a = 0
  ·rw [if_neg (by rw [g]; simp)]
   rw [if_neg (by show ¬ dErr s a ≠ 0; rw [g]; simp)] at hd
   change rDo (yy29 s) (edE 1 A c a) = (if 10000 < rTotal (yy29 (dTxt s a)) then (yy29 s, (4 : Int)) else (yy29 (dTxt s a), (0 : Int))) at hd
   have ht2 : rTotal (yy29 (dTxt s a)) ≤ 2000 := by
    have h3 := (yy384 g).2.2
    unfold rTotal yy29
    simp
    exact h3
   rw [if_neg (by omega)] at hd
   rw [yy494 hd]
   rfl
  ·rw [if_pos g]
   rw [if_pos (by show dErr s a ≠ 0; exact g)] at hd
   rw [yy495 hd (by show ((dErr s a : Nat) : Int) ≠ 0; omega)]
   rfl
 ·rw [if_pos (by omega), if_pos h]
theorem yy456 {x : ActV} {ks : List OneK} (hc : rChk [x] = 0) (h : rWhy x ks ≠ 0) : rRb [x] ks = ([], rWhy x ks) := by
 have e := yy177 h
 unfold rRb
 rw [yy200 (by rw [e]; exact h), e, if_neg (fun q => q hc), if_pos h]
theorem yy358 {x : ActV} {ks : List OneK} (hc : rChk [x] = 0) (h : rWhy x ks = 0) (hl : rbLeft x ks = true) : rRb [x] ks = ([], 0) := by
 have e := yy138 h hl
 have hr : rbR ks [] [x] = ([], 0) := by rw [rbR_go (by rw [e]), e, rbR]; rfl
 unfold rRb
 rw [hr]
 have h0 : rChk [] = 0 := by rw [yy199 (by simp), yy255 (by omega)]
 simp [hc, h0]
theorem yy359 {x : ActV} {ks : List OneK} {P : List CompV} (hc : rChk [x] = 0) (h : rWhy x ks = 0) (hl : rbLeft x ks = false) (he : rbEdit x ks) (ho : rOver false x.ops (getK0 ks x.id).ops = (P, 0)) (hP : rChk [{ x with ops := P }] = 0) : rRb [x] ks = ([{ x with ops := P }], 0) := by
 have e := yy97 h hl he (by rw [ho])
 rw [ho] at e
 have hr : rbR ks [] [x] = ([{ x with ops := P }], 0) := by rw [rbR_go (by rw [e]), e, rbR]; rfl
 unfold rRb
 rw [hr]
 simp [hc, hP]
def rmE (id : Int) : ActV := ⟨2, id, 0, [], false, none, 0, []⟩
theorem yy708 {x : ActV} (h1 : x.kind = 1 ∨ x.kind = 2 ∨ x.kind = 3) (h2 : aKey x = aKey (aPlain x)) (h3 : 1 ≤ x.id ∧ x.id ≤ 1099511627776) (h4 : 0 ≤ x.parent ∧ x.parent ≤ 1099511627776) (h5 : x.kind = 2 ∨ rName x.name = true) : ¬ ABad x := by
 rintro (h | h | h | h | h | h | h | h)
 ·omega
 ·omega
 ·exact h h2
 ·omega
 ·omega
 ·omega
 ·omega
 ·rcases h5 with g | g
  ·omega
  ·rw [g] at h; exact absurd h.2 (by simp)
theorem chk_plain {x : ActV} (h1 : x.kind = 1 ∨ x.kind = 2 ∨ x.kind = 3) (h2 : aKey x = aKey (aPlain x)) (h3 : 1 ≤ x.id ∧ x.id ≤ 1099511627776) (h4 : 0 ≤ x.parent ∧ x.parent ≤ 1099511627776) (h5 : x.kind = 2 ∨ rName x.name = true) : rChk [x] = 0 := by
 rw [yy199 (by simp), yy256 (yy708 h1 h2 h3 h4 h5) (by omega), yy255 (by omega)]
theorem yy754 {id : Int} (h : 1 ≤ id ∧ id ≤ 1099511627776) : rChk [rmE id] = 0 := chk_plain (.inr (.inl rfl)) (by rw [yy330 rfl]; rfl) h (by show (0 : Int) ≤ 0 ∧ (0 : Int) ≤ 1099511627776; omega) (.inl rfl)
def insX : List CompV := [⟨2, 0, [120]⟩]
def insX2 : List CompV := [⟨1, 1, []⟩, ⟨2, 0, [120]⟩]
theorem yy305 : rCheck insX = 0 ∧ rBase insX = 0 ∧ sz ⟨2, 0, [120]⟩ = 1 ∧ Held1 insX := by
 have h1 : Nrm insX := yy323 (.inr ⟨rfl, rfl, by simp, _, V_one 120 (by omega)⟩) yy622 (fun d h => by simp at h)
 have h2 : rBase insX = 0 := by simp [insX, rBase, yy38]
 have h3 : rOut insX = 1 := by simp [insX, rOut, yy54, hld01, (V_one 120 (by omega)).loose]
 refine ⟨?_, h2, by rw [sz_two rfl, cps_of (V_one 120 (by omega))]; rfl, ⟨fun y hy => by rw [List.mem_singleton.1 hy]; exact yy725 _ _ _ (by omega) (by omega) ⟨fun z hz => by rw [List.mem_singleton.1 hz]; omega, by simp⟩, by simp [insX], by simp [insX, tlen]⟩⟩
 rw [rCheck, yy123 h1, h2, h3]
 simp [insX]
theorem yy604 : rOver false insX insX = (insX2, 0) := by
 obtain ⟨a1, a2, a3, _⟩ := yy305
 have h := Ov.pass (f := false) insX ⟨2, 0, [120]⟩ [] _ (fun h => by have := h.2; revert this; decide) rfl (.puts ⟨2, 0, [120]⟩ [] [] [] rfl (.inr (by decide)) .nil)
 rw [a3] at h
 rw [yy249 a1 a1 rfl h]
 simp [yy31, nRun, nStep, nStart, NS.flush, keepOf, textOf, goneOf, hld01, insX2]
theorem yy709 : rCheck insX2 = 0 := by
 have h1 : Nrm insX2 := yy323 (.inl ⟨.inl rfl, by show (1 : Int) ≤ 1; omega, rfl⟩) (yy323 (.inr ⟨rfl, rfl, by simp, _, V_one 120 (by omega)⟩) yy622 (fun d h => by simp at h)) (fun d h => by
  simp at h
  subst h
  decide)
 have h2 : rBase insX2 = 1 := by simp [insX2, rBase, yy38, hld01]
 have h3 : rOut insX2 = 2 := by
  simp [insX2, rOut, yy54, hld01, (V_one 120 (by omega)).loose]
  rfl
 rw [rCheck, yy123 h1, h2, h3]
 simp [insX2]
def awK : List OneK := [⟨1, insX, true, false, false, false, 0, []⟩, ⟨2, [], false, true, false, false, 0, []⟩]
theorem aw_eff (A : Option Go.Addr) : eff [edE 1 A 1 insX, rmE 2] = awK := rfl
theorem yy399 : getK0 awK 1 = ⟨1, insX, true, false, false, false, 0, []⟩ := rfl
theorem yy537 : getK0 awK 2 = ⟨2, [], false, true, false, false, 0, []⟩ := rfl
theorem yy755 (A : Option Go.Addr) (c : Nat) : rRb [edE 1 A c insX] awK = ([edE 1 A c insX2], 0) := by
 refine yy359 (by rw [yy209 (by omega) (by omega), yy305.1]; rfl) ?_ ?_ ?_ yy604 (by
  show rChk [edE 1 A c insX2] = 0
  rw [yy209 (by omega) (by omega), yy709]
  rfl)
 ·unfold rWhy
  rw [if_pos (show (edE 1 A c insX).kind = 4 from rfl), show (edE 1 A c insX).id = 1 from rfl, yy399]
  rfl
 ·unfold rbLeft
  rw [show (edE 1 A c insX).id = 1 from rfl, yy399]
  simp [edE]
 ·unfold rbEdit
  rw [show (edE 1 A c insX).id = 1 from rfl, yy399]
  exact ⟨rfl, rfl, by simp [insX]⟩
theorem yy756 (A : Option Go.Addr) (c : Nat) : rRb [edE 2 A c insX] awK = ([], 12) := by
 have hw : rWhy (edE 2 A c insX) awK = 12 := by
  unfold rWhy
  rw [if_pos (show (edE 2 A c insX).kind = 4 from rfl), show (edE 2 A c insX).id = 2 from rfl, yy537]
  rfl
 rw [yy456 (by rw [yy209 (by omega) (by omega), yy305.1]; rfl) (by rw [hw]; decide), hw]
theorem aw_rm : rRb [rmE 2] awK = ([], 0) := by
 refine yy358 (yy754 (by omega)) ?_ ?_
 ·unfold rWhy
  rw [show (rmE 2).id = 2 from rfl, yy537]
  rfl
 ·unfold rbLeft
  rw [show (rmE 2).id = 2 from rfl, yy537]
  rfl
theorem aw_why : rWhy (rmE 1) awK = 13 := by
 unfold rWhy
 rw [show (rmE 1).id = 1 from rfl, yy399]
 rfl
theorem yy606 {s : List Nat} (hv : ∃ vs, V s vs) (hl : s.length ≤ 8000) (hc : (cps s).length ≤ 2000) : TreeM (yy29 s) where
 len := by simp [yy29]
 srt := List.pairwise_singleton _ _
 nd := fun x hx => by
  rw [List.mem_singleton.1 hx]
  exact ⟨by show (1 : Int) ≤ 1; omega, by show (1 : Int) ≤ 1099511627776; omega, by show IsName [102]; decide, fun h => (by cases h), hl, hv, hc⟩
 uniq := fun x hx y hy _ _ => by rw [List.mem_singleton.1 hx, List.mem_singleton.1 hy]
 tot := by
  unfold rTotal yy29
  simp
  omega
 dirs := fun x hx => .inl (by rw [List.mem_singleton.1 hx])
 ends := fun x hx => by
  rw [List.mem_singleton.1 hx]
  refine ⟨1, fun p hp => ?_⟩
  have hf : rFind (yy29 s) 1 = some 0 := yy175 (by simp [yy29]) rfl fun j hj hj0 => by omega
  rw [yy164 (by simp [yy29]) hf] at hp
  injection hp with hp
  show up (yy29 s) p = none
  refine yy285 (yy251 fun y hy => ?_)
  rw [List.mem_singleton.1 hy, ← hp]
  show (1 : Int) ≠ 0
  decide
theorem yy400 {s : List Nat} {A : Option Go.Addr} {c : Nat} {a : List CompV} (h : dErr s a ≠ 0) : (doAllV (yy29 s) [edE 1 A c a]).2.2 ≠ 0 := by
 rw [do_edE]
 by_cases g : rCheck a = 0
 ·rw [if_neg (fun q => q g), if_pos h]
  show ((dErr s a : Nat) : Int) ≠ 0
  omega
 ·rw [if_pos g]
  show ((rCheck a : Nat) : Int) ≠ 0
  omega
theorem yy106 {s : List Nat} {A : Option Go.Addr} {c : Nat} {a : List CompV} (h : dErr s a = 0) : doAllV (yy29 s) [edE 1 A c a] = (yy29 (dTxt s a), 1, 0) := by
 have g := (yy116 h).1
 rw [do_edE, if_neg (fun q => q g), if_neg (fun q => q h)]
theorem yy757 {a b : ActV} (l : List NodeV) (h : aKey a = aKey b) : rDo l a = rDo l b := by
 obtain ⟨h1, h2, h3, h4, h5, h6⟩ := yy386.1 h
 obtain ⟨ak, ai, ap, an, ad, aA, aC, ao⟩ := a
 obtain ⟨bk, bi, bp, bn, bd, bA, bC, bo⟩ := b
 simp only at h1 h2 h3 h4 h5 h6
 subst h1 h2 h3 h4 h5 h6
 unfold rDo yy82
 rfl
theorem yy639 : ∀ {l m : List ActV} {T : List NodeV} {i : Nat}, l.map aKey = m.map aKey → doR T l i = doR T m i
 | [], [], _, _, _ => rfl
 | [], _ :: _, _, _, h => by cases h
 | _ :: _, [], _, _, h => by cases h
 | a :: l, b :: m, T, i, h => by
  rw [List.map_cons, List.map_cons] at h
  injection h with h1 h2
  rw [doR, doR, yy757 T h1, yy639 h2]
theorem yy539 {l m : List ActV} (T : List NodeV) (h : l.map aKey = m.map aKey) : doAllV T l = doAllV T m := by
 unfold doAllV
 rw [yy258 h, yy639 h]
theorem yy711 {P : List CompV} (h : Ch 0 P) : rCheck P = 0 ∨ rCheck P = 3 := by
 unfold rCheck
 rw [yy123 h.nrm]
 split
 ·exact .inr rfl
 ·split
  ·rename_i g; cases g
  ·split
   ·exact .inr rfl
   ·exact .inl rfl
structure DidE (s : List Nat) (a : List CompV) (vs : List Nat) : Prop where
 ok : Ok a
 text : V s vs
 base : inS a = vs.length
 out : V (dTxt s a) (ed a vs)
 len : (ed a vs).length = outS a
 dt : dTxt s a = E (ed a vs)
theorem did_of {s : List Nat} {a : List CompV} (h : dErr s a = 0) : ∃ vs, DidE s a vs := by
 obtain ⟨h1, vs, hv, hn⟩ := yy116 h
 have ok := ok_of h1
 have hb := ok.base
 have e := yy282 h1 hv hn
 refine ⟨vs, ok, hv, by omega, ?_, yy109 a vs ok.wh (by omega), e⟩
 rw [e]
 exact V.mk (ed_may a vs ok.wh hv.may)
theorem yy712 {s : List Nat} {a b : List CompV} {vs : List Nat} (ha : DidE s a vs) (hb : Ok b) (hi : inS b = vs.length) : ∃ P Q, rOver false b a = (P, 0) ∧ rOver true a b = (Q, 0) ∧ (rCheck P = 0 ∨ rCheck P = 3) ∧ inS P = outS a ∧ (rCheck P = 0 → dErr (dTxt s a) P = 0) ∧
  (DidE s b vs → rCheck P = 0 → dErr (dTxt s b) Q = 0 → dTxt (dTxt s b) Q = dTxt (dTxt s a) P) := by
 obtain ⟨P, hP⟩ := yy497 false hb ha.ok (by rw [hi, ha.base])
 obtain ⟨Q, hQ⟩ := yy497 true ha.ok hb (by rw [hi, ha.base])
 have hd : rCheck P = 0 → dErr (dTxt s a) P = 0 := fun hc => yy379 hc ha.out (by rw [ha.len, (ok_of hc).base, hP.ins])
 refine ⟨P, Q, hP.over, hQ.over, yy711 hP.ch, hP.ins, hd, fun hbd hc hq => ?_⟩
 have hm := hQ.meets hP ha.ok hb (by rw [hi, ha.base]) vs (by rw [ha.base])
 have h1 := (yy116 hq).1
 have e1 := yy282 h1 hbd.out (by rw [hbd.len, (ok_of h1).base, hQ.ins])
 have e2 := yy282 hc ha.out (by rw [ha.len, (ok_of hc).base, hP.ins])
 rw [e1, e2, hm]
theorem yy713 {s vs : List Nat} (h : DidE s [] vs) : s = [] ∧ dTxt s [] = [] ∧ vs = [] := by
 have h1 := h.base
 rw [yy69] at h1
 have h2 : vs = [] := List.length_eq_zero_iff.1 h1.symm
 subst h2
 have h3 : s = [] := by rw [← h.text.bytes]; exact E_nil
 have h4 := h.dt
 have h5 := h.len
 rw [yy311] at h5
 rw [List.length_eq_zero_iff.1 h5, E_nil] at h4
 exact ⟨h3, h4, rfl⟩
theorem yy758 {s : List Nat} {a b : List CompV} {vs : List Nat} {B : Option Go.Addr} {n : Nat} (ha : DidE s a vs) (hb : rCheck b = 0) (hi : inS b = vs.length) :
  (∃ P, rRb [edE 1 B n b] [⟨1, a, true, false, false, false, 0, []⟩] = ([edE 1 B n P], 0) ∧ rCheck P = 0 ∧ ∃ us, V (dTxt s a) us ∧ inS P = us.length) ∨ rRb [edE 1 B n b] [⟨1, a, true, false, false, false, 0, []⟩] = ([], 3) := by
 by_cases h0 : a = []
 ·subst h0
  obtain ⟨e1, e2, e3⟩ := yy713 ha
  refine .inl ⟨b, yy707 (by omega) (by omega) hb, hb, [], by rw [e2]; exact V.nil, by rw [hi, e3]⟩
 ·obtain ⟨P, Q, h1, _, h3, h4, _⟩ := yy712 ha (ok_of hb) hi
  have e := yy753 (B := B) (d := n) (id := 1) (by omega) (by omega) hb h0 h1
  rcases h3 with h3 | h3
  ·exact .inl ⟨P, by rw [e, if_pos h3], h3, _, ha.out, by rw [h4, ha.len]⟩
  ·exact .inr (by rw [e, if_neg (by omega), h3]; rfl)
def Runs : List Nat → List EditR → List Nat → Prop
 | s, [], t => t = s
 | s, x :: r, t => dErr s x.2.2 = 0 ∧ Runs (dTxt s x.2.2) r t
theorem Runs.snoc {x : EditR} : ∀ {r : List EditR} {s t : List Nat}, Runs s r t → dErr t x.2.2 = 0 → Runs s (r ++ [x]) (dTxt t x.2.2)
 | [], s, t, h, hx => by
  have : t = s := h
  subst this
  exact ⟨hx, rfl⟩
 | y :: r, s, t, h, hx => ⟨h.1, Runs.snoc h.2 hx⟩
def comA (x : EditR) : List ActV := [edE 1 x.1 x.2.1 x.2.2]
theorem yy228 {B : Option Go.Addr} {n : Nat} : ∀ {r : List EditR} {s t : List Nat} {b : List CompV} {vs : List Nat}, Runs s r t → V s vs → rCheck b = 0 → inS b = vs.length →
  (∃ d, yy24 [edE 1 B n b] (r.map comA) = ([edE 1 B n d], 0) ∧ rCheck d = 0 ∧ dErr t d = 0) ∨ yy24 [edE 1 B n b] (r.map comA) = ([], 3)
 | [], s, t, b, vs, hr, hv, hb, hi => by
  have : t = s := hr
  subst this
  exact .inl ⟨b, by rw [List.map_nil, yy52], hb, yy379 hb hv (by rw [(ok_of hb).base, hi])⟩
 | x :: r, s, t, b, vs, hr, hv, hb, hi => by
  obtain ⟨us, hd⟩ := did_of hr.1
  obtain rfl := hd.text.uniq hv
  have he : eff (comA x) = [⟨1, x.2.2, true, false, false, false, 0, []⟩] := yy752 1 x.1 x.2.1 x.2.2
  rw [List.map_cons]
  rcases yy758 (B := B) (n := n) hd hb hi with ⟨P, h1, h2, ws, h3, h4⟩ | h1
  ·rw [yy49 (by rw [he, h1]), he, h1]
   exact yy228 hr.2 h3 h2 h4
  ·exact .inr (by rw [yy48 (by rw [he, h1]; decide), he, h1])
end Go.Proofs.YtjpjdkdbgjipnaaDoor
