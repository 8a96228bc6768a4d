/- The landed rebase's Why: what is said to an act, by the table of conflicts; and done: is it left out? Conditions: what may be looked at; the table holds what the program's text lays. (Merged of 2 texts.) -/
import Derived.Test.YtjpjdkdbgjipnaaGreatDoorU10
import Derived.Test.YtjpjdkdbgjipnaaGreatDoorU17
import Derived.Test.YtjpjdkdbgjipnaaGreatDoorU42
import Derived.Test.YtjpjdkdbgjipnaaGreatDoorU12
import Derived.BigQuiet
import Derived.Test.YtjpjdkdbgjipnaaGreatDoorU48
import Derived.Laws.Rows
namespace Go.Proofs.YtjpjdkdbgjipnaaGreatDoor
open Go.RowKit Go.Deep
def bitZ (b : Bool) (n : Int) : Int := if b = true then n else 0
def orZ (e r c m l o : Bool) : Int := bits .or .i64 (bits .or .i64 (bits .or .i64 (bits .or .i64 (bits .or .i64 (bitZ e 1) (bitZ r 2)) (bitZ c 4)) (bitZ m 8)) (bitZ l 16)) (bitZ o 32)
noncomputable def elseB (x : OneK) (p : Int) (n : List Nat) : Bool := x.moved && (decide (x.parent ≠ p) || !decide (x.name = n))
noncomputable def fndZ (x : OneK) (yr : Bool) (p : Int) (n : List Nat) : Int := orZ x.edited x.removed x.created x.moved (elseB x p n) yr
theorem yy361 {w : World} {ks : List OneK} {id : Int} {e : Ending} (h : GetRes w (getK ks id) e) : ∃ (y : OneV) (b : Bool), e = .returned (.tuple #[.agg (yy5 y).toArray, .bool b]) ∧ yy8 w y.opsA y.k.ops ∧ y.Good ∧ y.k = getK0 ks id := by
 obtain ⟨y, b, he, hc, hg, h⟩ := h
 refine ⟨y, b, he, hc, hg, ?_⟩
 have e2 : getK0 ks id = (getK ks id).getD (oneZ 0) := rfl
 rcases h with ⟨k, h1, h2, _⟩ | ⟨h1, h2, _⟩
 ·rw [e2, h1, h2]; rfl
 ·rw [e2, h1, h2]; rfl
set_option maxRecDepth 100000 in
theorem yy746 (b : Bool) (n : Int) (w : World) :
  Calls Tryz.prog 56 #[.bool b, .int .i64 n] w fun e w' => e = .returned (.int .i64 (bitZ b n)) ∧ Below w.heap.size w w' := by
 cases b with
 | true =>
  have HE : Hid (bitZ true n = n) := xh (by simp [bitZ])
  go_enter Tryz.func56, Tryz.ntmps56
  go_wp2
  go_ret
  exact ⟨by rw [HE.out]; rfl, Below.refl _ _⟩
 | false =>
  have HE : Hid (bitZ false n = 0) := xh (by simp [bitZ])
  go_enter Tryz.func56, Tryz.ntmps56
  go_wp2
  go_ret
  exact ⟨by rw [HE.out]; rfl, Below.refl _ _⟩
set_option maxHeartbeats 8000000 in
set_option maxRecDepth 100000 in
theorem yy603 (A : Option Addr) (c : Nat) (bs : List OneV) (a : ActV) (hl : bs.length ≤ 1048576) (hg : ∀ y ∈ bs, y.Good ∧ KeyH y.k) (hn : Bytes a.name) (w : World) (hA : OnesAt w A bs) :
  Calls Tryz.prog 35 #[.agg (yy0 a).toArray, .slice A bs.length c] w fun e w' => e = .returned (.int .i64 (fndZ (getK0 (bs.map (·.k)) a.id) (getK0 (bs.map (·.k)) a.parent).removed a.parent a.name)) ∧ Below w.heap.size w w' := by
 have GG := xh (fun (i : Int) v (h : Below w.heap.size w v) => yy317 A c bs i hl hg v (OnesAt.below hA h))
 have GB := xh (fun b n v => yy746 b n v)
 obtain ⟨ak, ai, ap, an, ad, aA, aC, ao⟩ := a
 unfold yy0
 simp only at hn ⊢
 have HNN := xh hn
 clear hA hg hn hl
 obtain ⟨X, HX⟩ : ∃ X, Hid (getK0 (bs.map (·.k)) ai = X) := ⟨_, xh rfl⟩
 obtain ⟨Y, HY⟩ : ∃ Y, Hid (getK0 (bs.map (·.k)) ap = Y) := ⟨_, xh rfl⟩
 rw [HX.out, HY.out]
 obtain ⟨R, HRR⟩ : ∃ R, Hid (fndZ X Y.removed ap an = R) := ⟨_, xh rfl⟩
 rw [HRR.out]
 obtain ⟨g, hgg⟩ : ∃ g, g = w.heap.size := ⟨_, rfl⟩
 have HR1 := xh (yy53 w 26 (.int .i64 ak) (.int .i64 ai) (.int .i64 ap) (.string (bstr an)) (.bool ad) (.slice aA ao.length aC))
 have HB1 : Hid (Below w.heap.size w (w.alloc (.cells #[.int .i64 ak, .int .i64 ai, .int .i64 ap, .string (bstr an), .bool ad, .slice aA ao.length aC] 26))) := xh ((Below.refl _ _).alloc (Nat.le_refl _) _)
 rw [← hgg] at HR1 HB1 GG
 have HG := xh hgg
 clear hgg
 obtain ⟨W0, HW0⟩ : ∃ x, Hid (w.alloc (.cells #[.int .i64 ak, .int .i64 ai, .int .i64 ap, .string (bstr an), .bool ad, .slice aA ao.length aC] 26) = x) := ⟨_, xh rfl⟩
 rw [HW0.out] at HR1 HB1
 rw [← HG.out]
 go_enter Tryz.func35, Tryz.ntmps35
 go_upto_region 1 with fail
 rw [← HG.out, HW0.out]
 clear HW0
 obtain ⟨y0, y1, y2, y3, y4, y5⟩ := yy10 HR1.out
 go_wp2_with fail
 refine (GG.out _ _ HB1.out).mono ?_
 rintro e v ⟨hr, hb⟩
 obtain ⟨x, b, rfl, -, hxg, hxk⟩ := yy361 hr
 rw [HX.out] at hxk
 subst hxk
 have HXG := xh hxg
 clear hr hxg
 replace HR1 := xh (HR1.out.of_block (hb.block _ HR1.out.lt))
 have hgv : g ≤ v.heap.size := Nat.le_trans (by rw [HG.out]; exact HB1.out.size) hb.size
 replace HB1 : Hid (Below g w v) := xh (HB1.out.trans (hb.mono (by rw [HG.out]; exact HB1.out.size)))
 clear y0 y1 y2 y3 y4 y5 hb HX
 obtain ⟨⟨xi, xo, xe, xr, xc, xm, xp, xn⟩, xA, xC⟩ := x
 unfold yy5
 simp only at HXG ⊢
 have HR2 := xh (yy24 v 63 (.int .i64 xi) (.slice xA xo.length xC) (.bool xe) (.bool xr) (.bool xc) (.bool xm) (.int .i64 xp) (.string (bstr xn)))
 have HR1' := xh (HR1.out.alloc (Obj.cells #[.int .i64 xi, .slice xA xo.length xC, .bool xe, .bool xr, .bool xc, .bool xm, .int .i64 xp, .string (bstr xn)] 63))
 have HB1' : Hid (Below g w (v.alloc (.cells #[.int .i64 xi, .slice xA xo.length xC, .bool xe, .bool xr, .bool xc, .bool xm, .int .i64 xp, .string (bstr xn)] 63))) := xh (HB1.out.alloc hgv _)
 obtain ⟨gx, hgx⟩ : ∃ gx, gx = v.heap.size := ⟨_, rfl⟩
 obtain ⟨V1, HV1⟩ : ∃ x, Hid (v.alloc (.cells #[.int .i64 xi, .slice xA xo.length xC, .bool xe, .bool xr, .bool xc, .bool xm, .int .i64 xp, .string (bstr xn)] 63) = x) := ⟨_, xh rfl⟩
 rw [HV1.out] at HR2 HR1' HB1'
 rw [← hgx] at HR2 hgv
 have HGX := xh hgx
 have HGV := xh hgv
 have hne : g ≠ gx := by have := HR1.out.lt; omega
 have HNE := xh hne
 clear HR1 HB1 hgx hgv hne
 go_upto_region 2 with fail
 rw [← HGX.out, HV1.out]
 clear HV1
 obtain ⟨y0, y1, y2, y3, y4, y5⟩ := yy10 HR1'.out
 go_wp2_with fail
 refine (GG.out _ _ HB1'.out).mono ?_
 rintro e v2 ⟨hr, hb⟩
 obtain ⟨z, b2, rfl, -, -, hzk⟩ := yy361 hr
 rw [HY.out] at hzk
 subst hzk
 have HR1 := xh (HR1'.out.of_block (hb.block _ HR1'.out.lt))
 replace HR2 := xh (HR2.out.of_block (hb.block _ HR2.out.lt))
 have hgv : g ≤ v2.heap.size := Nat.le_trans (by rw [HG.out]; exact HB1'.out.size) hb.size
 have HB1 : Hid (Below g w v2) := xh (HB1'.out.trans (hb.mono (by rw [HG.out]; exact HB1'.out.size)))
 clear y0 y1 y2 y3 y4 y5 hb hr HY HR1' HB1' HGV
 obtain ⟨⟨zi, zo, ze, zr, zc, zm, zp, zn⟩, zA, zC⟩ := z
 unfold yy5
 simp only
 have HR3 := xh (yy24 v2 63 (.int .i64 zi) (.slice zA zo.length zC) (.bool ze) (.bool zr) (.bool zc) (.bool zm) (.int .i64 zp) (.string (bstr zn)))
 replace HR1 := xh (HR1.out.alloc (Obj.cells #[.int .i64 zi, .slice zA zo.length zC, .bool ze, .bool zr, .bool zc, .bool zm, .int .i64 zp, .string (bstr zn)] 63))
 replace HR2 := xh (HR2.out.alloc (Obj.cells #[.int .i64 zi, .slice zA zo.length zC, .bool ze, .bool zr, .bool zc, .bool zm, .int .i64 zp, .string (bstr zn)] 63))
 replace HB1 : Hid (Below g w (v2.alloc (.cells #[.int .i64 zi, .slice zA zo.length zC, .bool ze, .bool zr, .bool zc, .bool zm, .int .i64 zp, .string (bstr zn)] 63))) := xh (HB1.out.alloc hgv _)
 obtain ⟨gy, hgy⟩ : ∃ gy, gy = v2.heap.size := ⟨_, rfl⟩
 obtain ⟨V2, HV2⟩ : ∃ x, Hid (v2.alloc (.cells #[.int .i64 zi, .slice zA zo.length zC, .bool ze, .bool zr, .bool zc, .bool zm, .int .i64 zp, .string (bstr zn)] 63) = x) := ⟨_, xh rfl⟩
 rw [HV2.out] at HR1 HR2 HR3 HB1
 rw [← hgy] at HR3
 have HGY := xh hgy
 clear hgy hgv
 go_upto_region 3 with fail
 rw [← HGY.out, HV2.out]
 clear HV2 HGY HGX
 obtain ⟨bl, HBL⟩ : ∃ b : Bool, Hid ((decide (xp ≠ ap) || !decide (xn = an)) = b) := ⟨_, xh rfl⟩
 go_cut [9] from 24 to 35 (fun s9 wc => s9 = .bool bl ∧ wc = V2)
 case first =>
  obtain ⟨y0, y1, y2, y3, y4, y5⟩ := yy10 HR1.out
  obtain ⟨x0, x1, x2, x3, x4, x5, x6, x7⟩ := yy9 HR2.out
  clear y0 y1 y4 y5 x0 x1 x2 x3 x4 x5
  by_cases hp : xp = ap
  ·subst hp
   by_cases hnm : xn = an
   ·subst hnm
    have HE : Hid (bl = false) := xh (by rw [← HBL.out]; simp)
    go_wp2
    go_meet
    case rel => exact ⟨by rw [HE.out], rfl⟩
   ·have g1 : ((bstr xn).toList == (bstr an).toList) = false := bstr_neq fun h => hnm (bstr_inj _ _ HXG.out.2.2.1.1 HNN.out.1 h)
    have HE : Hid (bl = true) := xh (by rw [← HBL.out]; simp [hnm])
    clear hnm
    go_wp2
    go_meet
    case rel => exact ⟨by rw [HE.out], rfl⟩
  ·have g1 : (xp == ap) = false := beq_eq_false_iff_ne.2 hp
   have g2 : (xp != ap) = true := by simpa using hp
   have HE : Hid (bl = true) := xh (by rw [← HBL.out]; simp [hp])
   clear hp
   go_wp2
   go_meet
   case rel => exact ⟨by rw [HE.out], rfl⟩
 case rest =>
  obtain ⟨rfl, rfl⟩ := hcut
  obtain ⟨x0, x1, x2, x3, x4, x5, x6, x7⟩ := yy9 HR2.out
  obtain ⟨-, -, -, z3, -⟩ := yy9 HR3.out
  have HX2 := xh x2
  have HX3 := xh x3
  have HX4 := xh x4
  have HX5 := xh x5
  have HZ3 := xh z3
  clear x0 x1 x2 x3 x4 x5 x6 x7 z3 HR1 HR2 HR3
  cases xm with
  | true =>
   have HF : Hid (fndZ ⟨xi, xo, xe, xr, xc, true, xp, xn⟩ zr ap an = orZ xe xr xc true bl zr) := xh (by unfold fndZ elseB; rw [← HBL.out]; rfl)
   go_upto_region 4 with fail
   refine wp_region_lit sc1 (by kernel_rfl) (by kernel_rfl) (fun _ _ d _ _ h => by cases d <;> exact h) ?_
   simp only [picked, sc1, xmc, xmn, xgs, xgz, xgd]
   replace HB1 := xh (HB1.out.drew)
   have q2 := fun e : Ext wc.drew => Ext.cell (w := wc.drew) HX2.out e
   have q3 := fun e : Ext wc.drew => Ext.cell (w := wc.drew) HX3.out e
   have q4 := fun e : Ext wc.drew => Ext.cell (w := wc.drew) HX4.out e
   have q5 := fun e : Ext wc.drew => Ext.cell (w := wc.drew) HX5.out e
   have q9 := fun e : Ext wc.drew => Ext.cell (w := wc.drew) HZ3.out e
   generalize wc.drew = wd at HB1 q2 q3 q4 q5 q9
   repeat (first | (refine yy1 (by rfl) (fun K hK => ?_); go_big_quiet_op; refine hK _ ?_; clear hK K) | (refine yy3 (by rfl) ?_; simp only [Act.put, xsa, xsz, xss]))
   clear q2 q3 q4 q5 q9
   refine yy11 (by rfl) (fun K hK => ?_)
   go_simp
   refine (GB.out _ _ _).mono ?_
   rintro e u1 ⟨rfl, hb⟩
   replace HB1 := xh (HB1.out.trans (hb.mono (by rw [HG.out]; exact HB1.out.size)))
   refine hK _ _ hb ?_
   clear hK K hb
   repeat (first | (refine yy1 (by rfl) (fun K hK => ?_); go_big_quiet_op; refine hK _ ?_; clear hK K) | (refine yy3 (by rfl) ?_; simp only [Act.put, xsa, xsz, xss]))
   refine yy11 (by rfl) (fun K hK => ?_)
   go_simp
   refine (GB.out _ _ _).mono ?_
   rintro e u2 ⟨rfl, hb⟩
   replace HB1 := xh (HB1.out.trans (hb.mono (by rw [HG.out]; exact HB1.out.size)))
   refine hK _ _ hb ?_
   clear hK K hb
   repeat (first | (refine yy1 (by rfl) (fun K hK => ?_); go_big_quiet_op; refine hK _ ?_; clear hK K) | (refine yy3 (by rfl) ?_; simp only [Act.put, xsa, xsz, xss]))
   refine yy11 (by rfl) (fun K hK => ?_)
   go_simp
   refine (GB.out _ _ _).mono ?_
   rintro e u3 ⟨rfl, hb⟩
   replace HB1 := xh (HB1.out.trans (hb.mono (by rw [HG.out]; exact HB1.out.size)))
   refine hK _ _ hb ?_
   clear hK K hb
   repeat (first | (refine yy1 (by rfl) (fun K hK => ?_); go_big_quiet_op; refine hK _ ?_; clear hK K) | (refine yy3 (by rfl) ?_; simp only [Act.put, xsa, xsz, xss]))
   refine yy11 (by rfl) (fun K hK => ?_)
   go_simp
   refine (GB.out _ _ _).mono ?_
   rintro e u4 ⟨rfl, hb⟩
   replace HB1 := xh (HB1.out.trans (hb.mono (by rw [HG.out]; exact HB1.out.size)))
   refine hK _ _ hb ?_
   clear hK K hb
   repeat (first | (refine yy1 (by rfl) (fun K hK => ?_); go_big_quiet_op; refine hK _ ?_; clear hK K) | (refine yy3 (by rfl) ?_; simp only [Act.put, xsa, xsz, xss]))
   refine yy11 (by rfl) (fun K hK => ?_)
   go_simp
   refine (GB.out _ _ _).mono ?_
   rintro e u5 ⟨rfl, hb⟩
   replace HB1 := xh (HB1.out.trans (hb.mono (by rw [HG.out]; exact HB1.out.size)))
   refine hK _ _ hb ?_
   clear hK K hb
   repeat (first | (refine yy1 (by rfl) (fun K hK => ?_); go_big_quiet_op; refine hK _ ?_; clear hK K) | (refine yy3 (by rfl) ?_; simp only [Act.put, xsa, xsz, xss]))
   refine yy11 (by rfl) (fun K hK => ?_)
   go_simp
   refine (GB.out _ _ _).mono ?_
   rintro e u6 ⟨rfl, hb⟩
   replace HB1 := xh (HB1.out.trans (hb.mono (by rw [HG.out]; exact HB1.out.size)))
   refine hK _ _ hb ?_
   clear hK K hb
   repeat (first | (refine yy1 (by rfl) (fun K hK => ?_); go_big_quiet_op; refine hK _ ?_; clear hK K) | (refine yy3 (by rfl) ?_; simp only [Act.put, xsa, xsz, xss]))
   refine yy25 ?_
   go_wp2
   go_ret
   exact ⟨by rw [← HRR.out, HF.out]; rfl, HB1.out⟩
  | false =>
   have HF : Hid (fndZ ⟨xi, xo, xe, xr, xc, false, xp, xn⟩ zr ap an = orZ xe xr xc false false zr) := xh (by unfold fndZ elseB; rfl)
   go_upto_region 4 with fail
   refine wp_region_lit sc1 (by kernel_rfl) (by kernel_rfl) (fun _ _ d _ _ h => by cases d <;> exact h) ?_
   simp only [picked, sc1, xmc, xmn, xgs, xgz, xgd]
   replace HB1 := xh (HB1.out.drew)
   have q2 := fun e : Ext wc.drew => Ext.cell (w := wc.drew) HX2.out e
   have q3 := fun e : Ext wc.drew => Ext.cell (w := wc.drew) HX3.out e
   have q4 := fun e : Ext wc.drew => Ext.cell (w := wc.drew) HX4.out e
   have q5 := fun e : Ext wc.drew => Ext.cell (w := wc.drew) HX5.out e
   have q9 := fun e : Ext wc.drew => Ext.cell (w := wc.drew) HZ3.out e
   generalize wc.drew = wd at HB1 q2 q3 q4 q5 q9
   repeat (first | (refine yy1 (by rfl) (fun K hK => ?_); go_big_quiet_op; refine hK _ ?_; clear hK K) | (refine yy3 (by rfl) ?_; simp only [Act.put, xsa, xsz, xss]))
   clear q2 q3 q4 q5 q9
   refine yy11 (by rfl) (fun K hK => ?_)
   go_simp
   refine (GB.out _ _ _).mono ?_
   rintro e u1 ⟨rfl, hb⟩
   replace HB1 := xh (HB1.out.trans (hb.mono (by rw [HG.out]; exact HB1.out.size)))
   refine hK _ _ hb ?_
   clear hK K hb
   repeat (first | (refine yy1 (by rfl) (fun K hK => ?_); go_big_quiet_op; refine hK _ ?_; clear hK K) | (refine yy3 (by rfl) ?_; simp only [Act.put, xsa, xsz, xss]))
   refine yy11 (by rfl) (fun K hK => ?_)
   go_simp
   refine (GB.out _ _ _).mono ?_
   rintro e u2 ⟨rfl, hb⟩
   replace HB1 := xh (HB1.out.trans (hb.mono (by rw [HG.out]; exact HB1.out.size)))
   refine hK _ _ hb ?_
   clear hK K hb
   repeat (first | (refine yy1 (by rfl) (fun K hK => ?_); go_big_quiet_op; refine hK _ ?_; clear hK K) | (refine yy3 (by rfl) ?_; simp only [Act.put, xsa, xsz, xss]))
   refine yy11 (by rfl) (fun K hK => ?_)
   go_simp
   refine (GB.out _ _ _).mono ?_
   rintro e u3 ⟨rfl, hb⟩
   replace HB1 := xh (HB1.out.trans (hb.mono (by rw [HG.out]; exact HB1.out.size)))
   refine hK _ _ hb ?_
   clear hK K hb
   repeat (first | (refine yy1 (by rfl) (fun K hK => ?_); go_big_quiet_op; refine hK _ ?_; clear hK K) | (refine yy3 (by rfl) ?_; simp only [Act.put, xsa, xsz, xss]))
   refine yy11 (by rfl) (fun K hK => ?_)
   go_simp
   refine (GB.out _ _ _).mono ?_
   rintro e u4 ⟨rfl, hb⟩
   replace HB1 := xh (HB1.out.trans (hb.mono (by rw [HG.out]; exact HB1.out.size)))
   refine hK _ _ hb ?_
   clear hK K hb
   repeat (first | (refine yy1 (by rfl) (fun K hK => ?_); go_big_quiet_op; refine hK _ ?_; clear hK K) | (refine yy3 (by rfl) ?_; simp only [Act.put, xsa, xsz, xss]))
   refine yy11 (by rfl) (fun K hK => ?_)
   go_simp
   refine (GB.out _ _ _).mono ?_
   rintro e u5 ⟨rfl, hb⟩
   replace HB1 := xh (HB1.out.trans (hb.mono (by rw [HG.out]; exact HB1.out.size)))
   refine hK _ _ hb ?_
   clear hK K hb
   repeat (first | (refine yy1 (by rfl) (fun K hK => ?_); go_big_quiet_op; refine hK _ ?_; clear hK K) | (refine yy3 (by rfl) ?_; simp only [Act.put, xsa, xsz, xss]))
   refine yy11 (by rfl) (fun K hK => ?_)
   go_simp
   refine (GB.out _ _ _).mono ?_
   rintro e u6 ⟨rfl, hb⟩
   replace HB1 := xh (HB1.out.trans (hb.mono (by rw [HG.out]; exact HB1.out.size)))
   refine hK _ _ hb ?_
   clear hK K hb
   repeat (first | (refine yy1 (by rfl) (fun K hK => ?_); go_big_quiet_op; refine hK _ ?_; clear hK K) | (refine yy3 (by rfl) ?_; simp only [Act.put, xsa, xsz, xss]))
   refine yy25 ?_
   go_wp2
   go_ret
   exact ⟨by rw [← HRR.out, HF.out]; rfl, HB1.out⟩
theorem or_0 (e r c m l o : Bool) : bits .and .i64 (orZ e r c m l o) 0 = 0 := by cases e <;> cases r <;> cases c <;> cases m <;> cases l <;> cases o <;> rfl
theorem or_2 (e r c m l o : Bool) : bits .and .i64 (orZ e r c m l o) 2 = if r = true then 2 else 0 := by cases e <;> cases r <;> cases c <;> cases m <;> cases l <;> cases o <;> rfl
theorem or_4 (e r c m l o : Bool) : bits .and .i64 (orZ e r c m l o) 4 = if c = true then 4 else 0 := by cases e <;> cases r <;> cases c <;> cases m <;> cases l <;> cases o <;> rfl
theorem or_9 (e r c m l o : Bool) : bits .and .i64 (orZ e r c m l o) 9 = (if e = true then 1 else 0) + (if m = true then 8 else 0) := by cases e <;> cases r <;> cases c <;> cases m <;> cases l <;> cases o <;> rfl
theorem or_16 (e r c m l o : Bool) : bits .and .i64 (orZ e r c m l o) 16 = if l = true then 16 else 0 := by cases e <;> cases r <;> cases c <;> cases m <;> cases l <;> cases o <;> rfl
theorem or_32 (e r c m l o : Bool) : bits .and .i64 (orZ e r c m l o) 32 = if o = true then 32 else 0 := by cases e <;> cases r <;> cases c <;> cases m <;> cases l <;> cases o <;> rfl
def yy15 (ak : Int) (e r c m l o : Bool) : List (Bool × Int) := [(decide (ak = 4) && r, 12), (decide (ak = 2) && ((e || m) && !r), 13), (decide (ak = 3) && r, 12), (decide (ak = 3) && l, 13), (decide (ak = 1) && c, 13), (decide (ak = 1) && o, 12), (decide (ak = 3) && o, 12)]
def firstW : List (Bool × Int) → Int
 | [] => 0
 | x :: r => if x.1 = true then x.2 else firstW r
theorem yy533 (a : ActV) (ks : List OneK) : rWhy a ks = firstW (yy15 a.kind (getK0 ks a.id).edited (getK0 ks a.id).removed (getK0 ks a.id).created (getK0 ks a.id).moved (elseB (getK0 ks a.id) a.parent a.name) (getK0 ks a.parent).removed) := by
 unfold rWhy elseB yy15
 generalize getK0 ks a.id = x
 generalize (getK0 ks a.parent).removed = o
 obtain ⟨xi, xo, xe, xr, xc, xm, xp, xn⟩ := x
 by_cases k4 : a.kind = 4
 ·cases xr <;> simp [k4, firstW]
 by_cases k2 : a.kind = 2
 ·cases xr <;> cases xe <;> cases xm <;> simp [k2, firstW]
 by_cases k3 : a.kind = 3
 ·by_cases hp : xp = a.parent
  ·by_cases hn : xn = a.name
   ·cases xr <;> cases xm <;> cases o <;> simp [k3, firstW, hp, hn]
   ·cases xr <;> cases xm <;> cases o <;> simp [k3, firstW, hp, hn]
  ·cases xr <;> cases xm <;> cases o <;> simp [k3, firstW, hp]
 by_cases k1 : a.kind = 1
 ·cases xc <;> cases o <;> simp [k1, firstW]
 ·simp [k4, k2, k3, k1, firstW]
set_option maxRecDepth 100000 in
theorem yy451 (w : World) : (Instr.index 82 (.agg confC) (.int .i64 0)).run Tryz.prog w = .ok (.agg #[.int .i64 4, .int .i64 2, .int .i64 0, .int .i64 12]) w := by
 simp [Instr.index, asIntOf, Sem.run_bind, run_underlying Tryz.underlying82, part, isAgg, run_underlying Tryz.underlying81, confC]
set_option maxRecDepth 100000 in
theorem yy452 (w : World) : (Instr.index 82 (.agg confC) (.int .i64 1)).run Tryz.prog w = .ok (.agg #[.int .i64 2, .int .i64 9, .int .i64 2, .int .i64 13]) w := by
 simp [Instr.index, asIntOf, Sem.run_bind, run_underlying Tryz.underlying82, part, isAgg, run_underlying Tryz.underlying81, confC]
set_option maxRecDepth 100000 in
theorem yy453 (w : World) : (Instr.index 82 (.agg confC) (.int .i64 2)).run Tryz.prog w = .ok (.agg #[.int .i64 3, .int .i64 2, .int .i64 0, .int .i64 12]) w := by
 simp [Instr.index, asIntOf, Sem.run_bind, run_underlying Tryz.underlying82, part, isAgg, run_underlying Tryz.underlying81, confC]
set_option maxRecDepth 100000 in
theorem yy454 (w : World) : (Instr.index 82 (.agg confC) (.int .i64 3)).run Tryz.prog w = .ok (.agg #[.int .i64 3, .int .i64 16, .int .i64 0, .int .i64 13]) w := by
 simp [Instr.index, asIntOf, Sem.run_bind, run_underlying Tryz.underlying82, part, isAgg, run_underlying Tryz.underlying81, confC]
set_option maxRecDepth 100000 in
theorem yy455 (w : World) : (Instr.index 82 (.agg confC) (.int .i64 4)).run Tryz.prog w = .ok (.agg #[.int .i64 1, .int .i64 4, .int .i64 0, .int .i64 13]) w := by
 simp [Instr.index, asIntOf, Sem.run_bind, run_underlying Tryz.underlying82, part, isAgg, run_underlying Tryz.underlying81, confC]
set_option maxRecDepth 100000 in
theorem yy456 (w : World) : (Instr.index 82 (.agg confC) (.int .i64 5)).run Tryz.prog w = .ok (.agg #[.int .i64 1, .int .i64 32, .int .i64 0, .int .i64 12]) w := by
 simp [Instr.index, asIntOf, Sem.run_bind, run_underlying Tryz.underlying82, part, isAgg, run_underlying Tryz.underlying81, confC]
set_option maxRecDepth 100000 in
theorem yy457 (w : World) : (Instr.index 82 (.agg confC) (.int .i64 6)).run Tryz.prog w = .ok (.agg #[.int .i64 3, .int .i64 32, .int .i64 0, .int .i64 12]) w := by
 simp [Instr.index, asIntOf, Sem.run_bind, run_underlying Tryz.underlying82, part, isAgg, run_underlying Tryz.underlying81, confC]
set_option maxHeartbeats 8000000 in
set_option maxRecDepth 100000 in
theorem yy534 (A : Option Addr) (c : Nat) (bs : List OneV) (a : ActV) (hl : bs.length ≤ 1048576) (hg : ∀ y ∈ bs, y.Good ∧ KeyH y.k) (hn : Bytes a.name) (w : World) (hA : OnesAt w A bs) (hC : ConfAt w) :
  Calls Tryz.prog 16 #[.agg (yy0 a).toArray, .slice A bs.length c] w fun e w' => e = .returned (.int .i64 (rWhy a (bs.map (·.k)))) ∧ Below w.heap.size w w' := by
 have GF := xh (fun v (h : Below w.heap.size w v) => yy603 A c bs a hl hg hn v (OnesAt.below hA h))
 rw [yy533]
 have HC := xh hC
 clear hA hg hn hl hC
 obtain ⟨ak, ai, ap, an, ad, aA, aC, ao⟩ := a
 unfold yy0 fndZ at GF
 unfold yy0
 simp only at GF ⊢
 generalize elseB (getK0 (bs.map (·.k)) ai) ap an = bl at GF ⊢
 generalize (getK0 (bs.map (·.k)) ap).removed = bo at GF ⊢
 generalize (getK0 (bs.map (·.k)) ai).edited = be at GF ⊢
 generalize (getK0 (bs.map (·.k)) ai).removed = br at GF ⊢
 generalize (getK0 (bs.map (·.k)) ai).created = bc at GF ⊢
 generalize (getK0 (bs.map (·.k)) ai).moved = bm at GF ⊢
 have K0 := xh (or_0 be br bc bm bl bo)
 have K2 := xh (or_2 be br bc bm bl bo)
 have K4 := xh (or_4 be br bc bm bl bo)
 have K9 := xh (or_9 be br bc bm bl bo)
 have K16 := xh (or_16 be br bc bm bl bo)
 have K32 := xh (or_32 be br bc bm bl bo)
 generalize orZ be br bc bm bl bo = F at GF K0 K2 K4 K9 K16 K32
 obtain ⟨R, HR0⟩ : ∃ R, Hid (firstW (yy15 ak be br bc bm bl bo) = R) := ⟨_, xh rfl⟩
 rw [HR0.out]
 obtain ⟨g, hgg⟩ : ∃ g, g = w.heap.size := ⟨_, rfl⟩
 have HR1 := xh (yy53 w 26 (.int .i64 ak) (.int .i64 ai) (.int .i64 ap) (.string (bstr an)) (.bool ad) (.slice aA ao.length aC))
 have HB1 : Hid (Below w.heap.size w (w.alloc (.cells #[.int .i64 ak, .int .i64 ai, .int .i64 ap, .string (bstr an), .bool ad, .slice aA ao.length aC] 26))) := xh ((Below.refl _ _).alloc (Nat.le_refl _) _)
 rw [← hgg] at HR1 HB1 GF
 have HG := xh hgg
 clear hgg
 obtain ⟨W0, HW0⟩ : ∃ x, Hid (w.alloc (.cells #[.int .i64 ak, .int .i64 ai, .int .i64 ap, .string (bstr an), .bool ad, .slice aA ao.length aC] 26) = x) := ⟨_, xh rfl⟩
 rw [HW0.out] at HR1 HB1
 rw [← HG.out]
 go_enter Tryz.func16, Tryz.ntmps16
 go_upto_region 1 with fail
 rw [← HG.out, HW0.out]
 clear HW0
 obtain ⟨y0, y1, y2, y3, y4, y5⟩ := yy10 HR1.out
 go_wp2_with fail
 refine (GF.out _ HB1.out).mono ?_
 rintro e v ⟨rfl, hb⟩
 replace HR1 := xh (HR1.out.of_block (hb.block _ HR1.out.lt))
 replace HB1 : Hid (Below g w v) := xh (HB1.out.trans (hb.mono (by rw [HG.out]; exact HB1.out.size)))
 replace HC : Hid (ConfAt v) := xh (HC.out.below (by rw [← HG.out]; exact HB1.out))
 clear y0 y1 y2 y3 y4 y5 hb GF
 obtain ⟨tc, fc, hcr⟩ := HC.out
 go_wp2_with (refine wpList_load_row rfl 82 (.global 0) rfl 0 rfl tc confC fc _ hcr Tryz.underlying82 rfl (by kernel_rfl) ?_)
 clear hcr
 go_loopw [12] (fun i wr => ∃ k : Nat, k ≤ 7 ∧ i = .int .i64 k ∧ Hid (firstW ((yy15 ak be br bc bm bl bo).drop k) = R) ∧ Hid (World.rowIs wr g 26 6 (sixV (.int .i64 ak) (.int .i64 ai) (.int .i64 ap) (.string (bstr an)) (.bool ad) (.slice aA ao.length aC))) ∧ Hid (Below g w wr)) (fun i _ => 7 - (intOf i).toNat)
 case atStart => exact ⟨0, by omega, rfl, HR0, HR1, HB1⟩
 case round =>
  clear HR0 HR1 HB1
  obtain ⟨k, hk, rfl, HR0, HR1, HB1⟩ := hrel
  have hgz : g ≤ wr.heap.size := Nat.le_of_lt HR1.out.lt
  by_cases hlt : k < 7
  ·rcases (show k = 0 ∨ k = 1 ∨ k = 2 ∨ k = 3 ∨ k = 4 ∨ k = 5 ∨ k = 6 by omega) with rfl | rfl | rfl | rfl | rfl | rfl | rfl
   ·have hix := fun w => yy451 w
    have HRN := xh (HR1.out.alloc (Obj.cells #[.int .i64 4, .int .i64 2, .int .i64 0, .int .i64 12] 81))
    have HBN := xh (HB1.out.alloc hgz (Obj.cells #[.int .i64 4, .int .i64 2, .int .i64 0, .int .i64 12] 81))
    obtain ⟨y0, y1, y2, y3, y4, y5⟩ := yy10 HRN.out
    clear y1 y2 y3 y4 y5
    by_cases hak : ak = 4
    ·obtain rfl : ak = 4 := hak
     have m1 := K2.out
     have m2 := K0.out
     cases br with
     | true =>
      have m1' : bits .and .i64 F 2 = 2 := by rw [m1]; rfl
      clear m1
      obtain rfl : R = 12 := by rw [← HR0.out]; simp [yy15, firstW]
      clear HR0
      go_wp2
      go_ret
      exact ⟨rfl, HBN.out⟩
     | false =>
      have m1' : bits .and .i64 F 2 = 0 := by rw [m1]; rfl
      clear m1
      have HN : Hid (firstW ((yy15 4 be false bc bm bl bo).drop 1) = R) := xh (by rw [← HR0.out]; simp [yy15, firstW])
      clear HR0
      go_wp2
      go_roundw
      case rel => exact ⟨1, by omega, by go_num, HN, HRN, HBN⟩
      case measure => simp [intOf]
    ·have g1 : ((4 : Int) == ak) = false := beq_eq_false_iff_ne.2 (fun e => hak e.symm)
     have HAK := xh hak
     clear hak
     have HN : Hid (firstW ((yy15 ak be br bc bm bl bo).drop 1) = R) := xh (by rw [← HR0.out]; simp [yy15, firstW, HAK.out])
     clear HR0
     go_wp2
     go_roundw
     case rel => exact ⟨1, by omega, by go_num, HN, HRN, HBN⟩
     case measure => simp [intOf]
   ·have hix := fun w => yy452 w
    have HRN := xh (HR1.out.alloc (Obj.cells #[.int .i64 2, .int .i64 9, .int .i64 2, .int .i64 13] 81))
    have HBN := xh (HB1.out.alloc hgz (Obj.cells #[.int .i64 2, .int .i64 9, .int .i64 2, .int .i64 13] 81))
    obtain ⟨y0, y1, y2, y3, y4, y5⟩ := yy10 HRN.out
    clear y1 y2 y3 y4 y5
    by_cases hak : ak = 2
    ·obtain rfl : ak = 2 := hak
     have m1 := K9.out
     have m2 := K2.out
     cases be with
     | true =>
      cases bm with
      | true =>
       have m1' : bits .and .i64 F 9 = 9 := by rw [m1]; rfl
       clear m1
       cases br with
       | true =>
        have m2' : bits .and .i64 F 2 = 2 := by rw [m2]; rfl
        clear m2
        have HN : Hid (firstW ((yy15 2 true true bc true bl bo).drop 2) = R) := xh (by rw [← HR0.out]; simp [yy15, firstW])
        clear HR0
        go_wp2
        go_roundw
        case rel => exact ⟨2, by omega, by go_num, HN, HRN, HBN⟩
        case measure => simp [intOf]
       | false =>
        have m2' : bits .and .i64 F 2 = 0 := by rw [m2]; rfl
        clear m2
        obtain rfl : R = 13 := by rw [← HR0.out]; simp [yy15, firstW]
        clear HR0
        go_wp2
        go_ret
        exact ⟨rfl, HBN.out⟩
      | false =>
       have m1' : bits .and .i64 F 9 = 1 := by rw [m1]; rfl
       clear m1
       cases br with
       | true =>
        have m2' : bits .and .i64 F 2 = 2 := by rw [m2]; rfl
        clear m2
        have HN : Hid (firstW ((yy15 2 true true bc false bl bo).drop 2) = R) := xh (by rw [← HR0.out]; simp [yy15, firstW])
        clear HR0
        go_wp2
        go_roundw
        case rel => exact ⟨2, by omega, by go_num, HN, HRN, HBN⟩
        case measure => simp [intOf]
       | false =>
        have m2' : bits .and .i64 F 2 = 0 := by rw [m2]; rfl
        clear m2
        obtain rfl : R = 13 := by rw [← HR0.out]; simp [yy15, firstW]
        clear HR0
        go_wp2
        go_ret
        exact ⟨rfl, HBN.out⟩
     | false =>
      cases bm with
      | true =>
       have m1' : bits .and .i64 F 9 = 8 := by rw [m1]; rfl
       clear m1
       cases br with
       | true =>
        have m2' : bits .and .i64 F 2 = 2 := by rw [m2]; rfl
        clear m2
        have HN : Hid (firstW ((yy15 2 false true bc true bl bo).drop 2) = R) := xh (by rw [← HR0.out]; simp [yy15, firstW])
        clear HR0
        go_wp2
        go_roundw
        case rel => exact ⟨2, by omega, by go_num, HN, HRN, HBN⟩
        case measure => simp [intOf]
       | false =>
        have m2' : bits .and .i64 F 2 = 0 := by rw [m2]; rfl
        clear m2
        obtain rfl : R = 13 := by rw [← HR0.out]; simp [yy15, firstW]
        clear HR0
        go_wp2
        go_ret
        exact ⟨rfl, HBN.out⟩
      | false =>
       have m1' : bits .and .i64 F 9 = 0 := by rw [m1]; rfl
       clear m1
       have HN : Hid (firstW ((yy15 2 false br bc false bl bo).drop 2) = R) := xh (by rw [← HR0.out]; simp [yy15, firstW])
       clear HR0
       go_wp2
       go_roundw
       case rel => exact ⟨2, by omega, by go_num, HN, HRN, HBN⟩
       case measure => simp [intOf]
    ·have g1 : ((2 : Int) == ak) = false := beq_eq_false_iff_ne.2 (fun e => hak e.symm)
     have HAK := xh hak
     clear hak
     have HN : Hid (firstW ((yy15 ak be br bc bm bl bo).drop 2) = R) := xh (by rw [← HR0.out]; simp [yy15, firstW, HAK.out])
     clear HR0
     go_wp2
     go_roundw
     case rel => exact ⟨2, by omega, by go_num, HN, HRN, HBN⟩
     case measure => simp [intOf]
   ·have hix := fun w => yy453 w
    have HRN := xh (HR1.out.alloc (Obj.cells #[.int .i64 3, .int .i64 2, .int .i64 0, .int .i64 12] 81))
    have HBN := xh (HB1.out.alloc hgz (Obj.cells #[.int .i64 3, .int .i64 2, .int .i64 0, .int .i64 12] 81))
    obtain ⟨y0, y1, y2, y3, y4, y5⟩ := yy10 HRN.out
    clear y1 y2 y3 y4 y5
    by_cases hak : ak = 3
    ·obtain rfl : ak = 3 := hak
     have m1 := K2.out
     have m2 := K0.out
     cases br with
     | true =>
      have m1' : bits .and .i64 F 2 = 2 := by rw [m1]; rfl
      clear m1
      obtain rfl : R = 12 := by rw [← HR0.out]; simp [yy15, firstW]
      clear HR0
      go_wp2
      go_ret
      exact ⟨rfl, HBN.out⟩
     | false =>
      have m1' : bits .and .i64 F 2 = 0 := by rw [m1]; rfl
      clear m1
      have HN : Hid (firstW ((yy15 3 be false bc bm bl bo).drop 3) = R) := xh (by rw [← HR0.out]; simp [yy15, firstW])
      clear HR0
      go_wp2
      go_roundw
      case rel => exact ⟨3, by omega, by go_num, HN, HRN, HBN⟩
      case measure => simp [intOf]
    ·have g1 : ((3 : Int) == ak) = false := beq_eq_false_iff_ne.2 (fun e => hak e.symm)
     have HAK := xh hak
     clear hak
     have HN : Hid (firstW ((yy15 ak be br bc bm bl bo).drop 3) = R) := xh (by rw [← HR0.out]; simp [yy15, firstW, HAK.out])
     clear HR0
     go_wp2
     go_roundw
     case rel => exact ⟨3, by omega, by go_num, HN, HRN, HBN⟩
     case measure => simp [intOf]
   ·have hix := fun w => yy454 w
    have HRN := xh (HR1.out.alloc (Obj.cells #[.int .i64 3, .int .i64 16, .int .i64 0, .int .i64 13] 81))
    have HBN := xh (HB1.out.alloc hgz (Obj.cells #[.int .i64 3, .int .i64 16, .int .i64 0, .int .i64 13] 81))
    obtain ⟨y0, y1, y2, y3, y4, y5⟩ := yy10 HRN.out
    clear y1 y2 y3 y4 y5
    by_cases hak : ak = 3
    ·obtain rfl : ak = 3 := hak
     have m1 := K16.out
     have m2 := K0.out
     cases bl with
     | true =>
      have m1' : bits .and .i64 F 16 = 16 := by rw [m1]; rfl
      clear m1
      obtain rfl : R = 13 := by rw [← HR0.out]; simp [yy15, firstW]
      clear HR0
      go_wp2
      go_ret
      exact ⟨rfl, HBN.out⟩
     | false =>
      have m1' : bits .and .i64 F 16 = 0 := by rw [m1]; rfl
      clear m1
      have HN : Hid (firstW ((yy15 3 be br bc bm false bo).drop 4) = R) := xh (by rw [← HR0.out]; simp [yy15, firstW])
      clear HR0
      go_wp2
      go_roundw
      case rel => exact ⟨4, by omega, by go_num, HN, HRN, HBN⟩
      case measure => simp [intOf]
    ·have g1 : ((3 : Int) == ak) = false := beq_eq_false_iff_ne.2 (fun e => hak e.symm)
     have HAK := xh hak
     clear hak
     have HN : Hid (firstW ((yy15 ak be br bc bm bl bo).drop 4) = R) := xh (by rw [← HR0.out]; simp [yy15, firstW, HAK.out])
     clear HR0
     go_wp2
     go_roundw
     case rel => exact ⟨4, by omega, by go_num, HN, HRN, HBN⟩
     case measure => simp [intOf]
   ·have hix := fun w => yy455 w
    have HRN := xh (HR1.out.alloc (Obj.cells #[.int .i64 1, .int .i64 4, .int .i64 0, .int .i64 13] 81))
    have HBN := xh (HB1.out.alloc hgz (Obj.cells #[.int .i64 1, .int .i64 4, .int .i64 0, .int .i64 13] 81))
    obtain ⟨y0, y1, y2, y3, y4, y5⟩ := yy10 HRN.out
    clear y1 y2 y3 y4 y5
    by_cases hak : ak = 1
    ·obtain rfl : ak = 1 := hak
     have m1 := K4.out
     have m2 := K0.out
     cases bc with
     | true =>
      have m1' : bits .and .i64 F 4 = 4 := by rw [m1]; rfl
      clear m1
      obtain rfl : R = 13 := by rw [← HR0.out]; simp [yy15, firstW]
      clear HR0
      go_wp2
      go_ret
      exact ⟨rfl, HBN.out⟩
     | false =>
      have m1' : bits .and .i64 F 4 = 0 := by rw [m1]; rfl
      clear m1
      have HN : Hid (firstW ((yy15 1 be br false bm bl bo).drop 5) = R) := xh (by rw [← HR0.out]; simp [yy15, firstW])
      clear HR0
      go_wp2
      go_roundw
      case rel => exact ⟨5, by omega, by go_num, HN, HRN, HBN⟩
      case measure => simp [intOf]
    ·have g1 : ((1 : Int) == ak) = false := beq_eq_false_iff_ne.2 (fun e => hak e.symm)
     have HAK := xh hak
     clear hak
     have HN : Hid (firstW ((yy15 ak be br bc bm bl bo).drop 5) = R) := xh (by rw [← HR0.out]; simp [yy15, firstW, HAK.out])
     clear HR0
     go_wp2
     go_roundw
     case rel => exact ⟨5, by omega, by go_num, HN, HRN, HBN⟩
     case measure => simp [intOf]
   ·have hix := fun w => yy456 w
    have HRN := xh (HR1.out.alloc (Obj.cells #[.int .i64 1, .int .i64 32, .int .i64 0, .int .i64 12] 81))
    have HBN := xh (HB1.out.alloc hgz (Obj.cells #[.int .i64 1, .int .i64 32, .int .i64 0, .int .i64 12] 81))
    obtain ⟨y0, y1, y2, y3, y4, y5⟩ := yy10 HRN.out
    clear y1 y2 y3 y4 y5
    by_cases hak : ak = 1
    ·obtain rfl : ak = 1 := hak
     have m1 := K32.out
     have m2 := K0.out
     cases bo with
     | true =>
      have m1' : bits .and .i64 F 32 = 32 := by rw [m1]; rfl
      clear m1
      obtain rfl : R = 12 := by rw [← HR0.out]; simp [yy15, firstW]
      clear HR0
      go_wp2
      go_ret
      exact ⟨rfl, HBN.out⟩
     | false =>
      have m1' : bits .and .i64 F 32 = 0 := by rw [m1]; rfl
      clear m1
      have HN : Hid (firstW ((yy15 1 be br bc bm bl false).drop 6) = R) := xh (by rw [← HR0.out]; simp [yy15, firstW])
      clear HR0
      go_wp2
      go_roundw
      case rel => exact ⟨6, by omega, by go_num, HN, HRN, HBN⟩
      case measure => simp [intOf]
    ·have g1 : ((1 : Int) == ak) = false := beq_eq_false_iff_ne.2 (fun e => hak e.symm)
     have HAK := xh hak
     clear hak
     have HN : Hid (firstW ((yy15 ak be br bc bm bl bo).drop 6) = R) := xh (by rw [← HR0.out]; simp [yy15, firstW, HAK.out])
     clear HR0
     go_wp2
     go_roundw
     case rel => exact ⟨6, by omega, by go_num, HN, HRN, HBN⟩
     case measure => simp [intOf]
   ·have hix := fun w => yy457 w
    have HRN := xh (HR1.out.alloc (Obj.cells #[.int .i64 3, .int .i64 32, .int .i64 0, .int .i64 12] 81))
    have HBN := xh (HB1.out.alloc hgz (Obj.cells #[.int .i64 3, .int .i64 32, .int .i64 0, .int .i64 12] 81))
    obtain ⟨y0, y1, y2, y3, y4, y5⟩ := yy10 HRN.out
    clear y1 y2 y3 y4 y5
    by_cases hak : ak = 3
    ·obtain rfl : ak = 3 := hak
     have m1 := K32.out
     have m2 := K0.out
     cases bo with
     | true =>
      have m1' : bits .and .i64 F 32 = 32 := by rw [m1]; rfl
      clear m1
      obtain rfl : R = 12 := by rw [← HR0.out]; simp [yy15, firstW]
      clear HR0
      go_wp2
      go_ret
      exact ⟨rfl, HBN.out⟩
     | false =>
      have m1' : bits .and .i64 F 32 = 0 := by rw [m1]; rfl
      clear m1
      have HN : Hid (firstW ((yy15 3 be br bc bm bl false).drop 7) = R) := xh (by rw [← HR0.out]; simp [yy15, firstW])
      clear HR0
      go_wp2
      go_roundw
      case rel => exact ⟨7, by omega, by go_num, HN, HRN, HBN⟩
      case measure => simp [intOf]
    ·have g1 : ((3 : Int) == ak) = false := beq_eq_false_iff_ne.2 (fun e => hak e.symm)
     have HAK := xh hak
     clear hak
     have HN : Hid (firstW ((yy15 ak be br bc bm bl bo).drop 7) = R) := xh (by rw [← HR0.out]; simp [yy15, firstW, HAK.out])
     clear HR0
     go_wp2
     go_roundw
     case rel => exact ⟨7, by omega, by go_num, HN, HRN, HBN⟩
     case measure => simp [intOf]
  ·obtain rfl : k = 7 := by omega
   have hF : R = 0 := by rw [← HR0.out]; rfl
   subst hF
   go_wp2
   go_ret
   exact ⟨rfl, HB1.out⟩
def doneB (k : Int) (y : OneK) : Bool := (decide (k = 2) && y.removed) || (decide (k = 3) && y.moved)
theorem yy458 (a : ActV) (ks : List OneK) : rbLeft a ks = doneB a.kind (getK0 ks a.id) := rfl
set_option maxHeartbeats 2000000 in
set_option maxRecDepth 100000 in
theorem yy691 (a : ActV) (y : OneV) (w : World) :
  Calls Tryz.prog 24 #[.agg (yy0 a).toArray, .agg (yy5 y).toArray] w fun e w' => e = .returned (.bool (doneB a.kind y.k)) ∧ Below w.heap.size w w' := by
 obtain ⟨ak, ai, ap, an, ad, aA, aC, ao⟩ := a
 obtain ⟨⟨xi, xo, xe, xr, xc, xm, xp, xn⟩, xA, xC⟩ := y
 obtain ⟨R, HR⟩ : ∃ R, Hid (doneB ak ⟨xi, xo, xe, xr, xc, xm, xp, xn⟩ = R) := ⟨_, xh rfl⟩
 simp only
 rw [HR.out]
 unfold yy0 yy5
 have HB : Hid (Below w.heap.size w ((w.alloc (.cells #[.int .i64 ak, .int .i64 ai, .int .i64 ap, .string (bstr an), .bool ad, .slice aA ao.length aC] 26)).alloc (.cells #[.int .i64 xi, .slice xA xo.length xC, .bool xe, .bool xr, .bool xc, .bool xm, .int .i64 xp, .string (bstr xn)] 63))) := xh (((Below.refl _ _).alloc (Nat.le_refl _) _).alloc (by simp) _)
 by_cases k2 : ak = 2
 ·obtain rfl : ak = 2 := k2
  cases xr with
  | true =>
   obtain rfl : R = true := by rw [← HR.out]; rfl
   go_enter Tryz.func24, Tryz.ntmps24
   go_wp2
   go_ret
   exact ⟨rfl, HB.out⟩
  | false =>
   obtain rfl : R = false := by rw [← HR.out]; rfl
   go_enter Tryz.func24, Tryz.ntmps24
   go_wp2
   go_ret
   exact ⟨rfl, HB.out⟩
 have d2 : (ak == 2) = false := beq_eq_false_iff_ne.2 k2
 by_cases k3 : ak = 3
 ·obtain rfl : ak = 3 := k3
  obtain rfl : R = xm := by rw [← HR.out]; simp [doneB]
  clear k2 d2
  go_enter Tryz.func24, Tryz.ntmps24
  go_wp2
  go_ret
  exact ⟨rfl, HB.out⟩
 have d3 : (ak == 3) = false := beq_eq_false_iff_ne.2 k3
 obtain rfl : R = false := by rw [← HR.out]; simp [doneB, k2, k3]
 clear k2 k3
 go_enter Tryz.func24, Tryz.ntmps24
 go_wp2
 go_ret
 exact ⟨rfl, HB.out⟩
end Go.Proofs.YtjpjdkdbgjipnaaGreatDoor
