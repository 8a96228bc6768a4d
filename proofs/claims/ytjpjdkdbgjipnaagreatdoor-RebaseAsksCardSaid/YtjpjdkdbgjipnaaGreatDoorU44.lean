/- The document's own SameOnes, of rows with the same fields. Condition: no slice is longer than memory. -/
import Derived.Test.YtjpjdkdbgjipnaaGreatDoorU46
import Derived.Test.YtjpjdkdbgjipnaaGreatDoorU45
import Derived.Test.YtjpjdkdbgjipnaaGreatDoorU42
import Derived.Test.YtjpjdkdbgjipnaaGreatDoorU21
import Derived.BigRegion
import Derived.BigQuiet
namespace Go.Proofs.YtjpjdkdbgjipnaaGreatDoor
open Go.RowKit Go.Deep
def soS0 : Sched Nat := (.one 10 (.one 11 .done))
def soS : Sched Nat := (.quiet 0 (.quiet 1 (.quiet 2 (.quiet 3 (.quiet 4 (.quiet 5 (.quiet 6 (.quiet 7 (.two 8 (.one 9 soS0) 9 (.one 8 soS0))))))))))
set_option maxHeartbeats 4000000 in
set_option maxRecDepth 100000 in
theorem yy481 (A B : Option Addr) (ca cb : Nat) (l m : List OneV) (hl : l.length ≤ maxLen) (hgl : ∀ y ∈ l, y.Good) (hgm : ∀ y ∈ m, y.Good) (he : l.map (·.k) = m.map (·.k)) (w : World) (hA : OnesAt w A l) (hB : OnesAt w B m) :
  Calls Tryz.prog 14 #[.slice A l.length ca, .slice B m.length cb] w fun e w' => e = .returned (.bool true) ∧ Below w.heap.size w w' := by
 unfold maxLen at hl
 have HA := xh hA; clear hA
 have HB := xh hB; clear hB
 have hlen : l.length = m.length := by have := congrArg List.length he; simpa using this
 rw [← hlen]
 have HLEN := xh hlen
 have HEQ := xh he
 clear hlen he
 go_enter Tryz.func14, Tryz.ntmps14
 go_wp2
 go_loopw [5, 6, 7] (fun i s6 s7 wr => ∃ k : Nat, k ≤ l.length ∧ i = .int .i64 (k : Int) ∧ s6 = s6 ∧ s7 = s7 ∧ Hid (Below w.heap.size w wr)) (fun i _ _ _ => l.length - (intOf i).toNat)
 case atStart => exact ⟨0, Nat.zero_le _, rfl, rfl, rfl, xh (Below.refl _ _)⟩
 case round =>
  obtain ⟨k, hk, rfl, _, _, HBEL⟩ := hrel
  obtain ⟨wo, hwo⟩ : ∃ x, x = wr := ⟨wr, rfl⟩
  subst hwo
  by_cases hlt : k < l.length
  ·have hlt2 : k < m.length := by have := HLEN.out; omega
   have hltI : (k : Int) < (l.length : Int) := by omega
   have hltJ : (k : Int) < (m.length : Int) := by omega
   obtain ⟨b1, o1, rfl, _⟩ := HA.out.form (by omega)
   obtain ⟨b2, o2, rfl, _⟩ := HB.out.form (by omega)
   have HX := xh (fun (W : World) (h : Below w.heap.size w W) => (HA.out.below h).at_ hlt)
   have HY := xh (fun (W : World) (h : Below w.heap.size w W) => (HB.out.below h).at_ hlt2)
   have HK : Hid (l[k].k = m[k].k) := xh (by
    have := congrArg (fun q => q[k]?) HEQ.out
    simpa [List.getElem?_map, List.getElem?_eq_getElem hlt, List.getElem?_eq_getElem hlt2] using this)
   have hgk := hgl _ (List.getElem_mem hlt)
   have hgj := hgm _ (List.getElem_mem hlt2)
   have HC1 := xh (HA.out.2 _ (List.getElem_mem hlt))
   have HC2 := xh (HB.out.2 _ (List.getElem_mem hlt2))
   generalize l[k] = c at HX HK hgk HC1
   generalize m[k] = d at HY HK hgj HC2
   obtain ⟨ck, cA, cC⟩ := c
   obtain ⟨dk, dA, dC⟩ := d
   have hkk := HK.out
   simp only at hkk
   subst hkk
   have GS := xh (fun (W : World) (h : Below w.heap.size w W) => yy250 cA dA cC dC ck.ops ck.ops (by have := hgk.2.2.2.2; simp only at this; unfold maxLen at *; omega) (by have := hgk.2.2.2.2; simp only at this; unfold maxLen at *; omega) hgk.2.2.2.1 hgk.2.2.2.1 W (HC1.out.below h) (HC2.out.below h))
   rw [yy516] at GS
   clear hgk hgj HK HC1 HC2
   obtain ⟨yi, yo, ye, yr, yc, ym, yp, yn⟩ := ck
   simp only at HX HY GS
   have gs1 : (yi != yi) = false := by simp
   have gs2 : (ye != ye) = false := by simp
   have gs3 : (yr != yr) = false := by simp
   have gs4 : (yc != yc) = false := by simp
   have gs5 : (ym != ym) = false := by simp
   have gs6 : (yp != yp) = false := by simp
   have gs7 : ((bstr yn).toList != (bstr yn).toList) = false := by simp
   go_wp2_with fail
   refine Sched.yy589 (some wo.heap.size) soS (by kernel_rfl) (by kernel_rfl) (fun _ _ d _ _ h => by cases d <;> exact h) ?_
   have HBD : Hid (Below w.heap.size w wo.drew) := xh (Below.drew HBEL.out)
   have hsz : wo.drew.heap.size = wo.heap.size := rfl
   rw [← hsz]
   generalize wo.drew = wd at HBD ⊢
   simp only [soS, Sched.picked, List.getElem?_cons_succ, List.getElem?_cons_zero, Option.getD_some]
   have x0 := fun e : ExtB (some wd.heap.size) wd => (HX.out e.val (HBD.out.trans (e.property.mono HBD.out.size))).1
   have x1 := fun e : ExtB (some wd.heap.size) wd => (HX.out e.val (HBD.out.trans (e.property.mono HBD.out.size))).2.1
   have x2 := fun e : ExtB (some wd.heap.size) wd => (HX.out e.val (HBD.out.trans (e.property.mono HBD.out.size))).2.2.1
   have x3 := fun e : ExtB (some wd.heap.size) wd => (HX.out e.val (HBD.out.trans (e.property.mono HBD.out.size))).2.2.2.1
   have x4 := fun e : ExtB (some wd.heap.size) wd => (HX.out e.val (HBD.out.trans (e.property.mono HBD.out.size))).2.2.2.2.1
   have x5 := fun e : ExtB (some wd.heap.size) wd => (HX.out e.val (HBD.out.trans (e.property.mono HBD.out.size))).2.2.2.2.2.1
   have x6 := fun e : ExtB (some wd.heap.size) wd => (HX.out e.val (HBD.out.trans (e.property.mono HBD.out.size))).2.2.2.2.2.2.1
   have x7 := fun e : ExtB (some wd.heap.size) wd => (HX.out e.val (HBD.out.trans (e.property.mono HBD.out.size))).2.2.2.2.2.2.2
   have y0 := fun e : ExtB (some wd.heap.size) wd => (HY.out e.val (HBD.out.trans (e.property.mono HBD.out.size))).1
   have y1 := fun e : ExtB (some wd.heap.size) wd => (HY.out e.val (HBD.out.trans (e.property.mono HBD.out.size))).2.1
   have y2 := fun e : ExtB (some wd.heap.size) wd => (HY.out e.val (HBD.out.trans (e.property.mono HBD.out.size))).2.2.1
   have y3 := fun e : ExtB (some wd.heap.size) wd => (HY.out e.val (HBD.out.trans (e.property.mono HBD.out.size))).2.2.2.1
   have y4 := fun e : ExtB (some wd.heap.size) wd => (HY.out e.val (HBD.out.trans (e.property.mono HBD.out.size))).2.2.2.2.1
   have y5 := fun e : ExtB (some wd.heap.size) wd => (HY.out e.val (HBD.out.trans (e.property.mono HBD.out.size))).2.2.2.2.2.1
   have y6 := fun e : ExtB (some wd.heap.size) wd => (HY.out e.val (HBD.out.trans (e.property.mono HBD.out.size))).2.2.2.2.2.2.1
   have y7 := fun e : ExtB (some wd.heap.size) wd => (HY.out e.val (HBD.out.trans (e.property.mono HBD.out.size))).2.2.2.2.2.2.2
   repeat (first | (refine Sched.yy733 (by rfl) (fun K hK => ?_); go_big_quiet_op; refine hK _ ?_; clear hK K) | (refine Sched.yy568 (by rfl) ?_; simp only [Act.put, xsa, xsz, xss]))
   clear x0 x1 x2 x3 x4 x5 x6 x7 y0 y1 y2 y3 y4 y5 y6 y7
   refine Sched.walk_two ?_ ?_
   ·skip
    refine Sched.walk_one (by rfl) (fun K hK => ?_)
    go_simp
    refine hK _ _ (yy405 (Nat.le_refl _) _) ?_
    clear hK K
    have HF1 := xh (yy24 wd 55 (.int .i64 0) (.slice none 0 0) (.bool false) (.bool false) (.bool false) (.bool false) (.int .i64 0) (.string { data := #[] }))
    have HB1 : Hid (Below wd.heap.size wd (wd.alloc (.cells #[.int .i64 0, .slice none 0 0, .bool false, .bool false, .bool false, .bool false, .int .i64 0, .string { data := #[] }] 55))) := xh ((Below.refl _ _).alloc (Nat.le_refl _) _)
    repeat (first | (refine Sched.yy733 (by rfl) (fun K hK => ?_); go_big_quiet_op; refine hK _ ?_; clear hK K) | (refine Sched.yy568 (by rfl) ?_; simp only [Act.put, xsa, xsz, xss]))
    refine Sched.walk_one (by rfl) (fun K hK => ?_)
    go_simp
    refine hK _ _ (yy405 (by simp [baseOf]) _) ?_
    clear hK K
    have HF2 := xh (yy24 (wd.alloc (.cells #[.int .i64 0, .slice none 0 0, .bool false, .bool false, .bool false, .bool false, .int .i64 0, .string { data := #[] }] 55)) 55 (.int .i64 0) (.slice none 0 0) (.bool false) (.bool false) (.bool false) (.bool false) (.int .i64 0) (.string { data := #[] }))
    replace HF1 := xh (HF1.out.alloc (.cells #[.int .i64 0, .slice none 0 0, .bool false, .bool false, .bool false, .bool false, .int .i64 0, .string { data := #[] }] 55))
    replace HB1 := xh (HB1.out.alloc HB1.out.size (.cells #[.int .i64 0, .slice none 0 0, .bool false, .bool false, .bool false, .bool false, .int .i64 0, .string { data := #[] }] 55))
    rw [World.size_alloc] at HF2
    generalize hW : World.alloc (wd.alloc (.cells #[.int .i64 0, .slice none 0 0, .bool false, .bool false, .bool false, .bool false, .int .i64 0, .string { data := #[] }] 55)) (.cells #[.int .i64 0, .slice none 0 0, .bool false, .bool false, .bool false, .bool false, .int .i64 0, .string { data := #[] }] 55) = W2 at HF1 HF2 HB1 ⊢
    clear hW
    repeat (first | (refine Sched.yy733 (by rfl) (fun K hK => ?_); go_big_quiet_op; refine hK _ ?_; clear hK K) | (refine Sched.yy568 (by rfl) ?_; simp only [Act.put, xsa, xsz, xss]))
    simp only [soS0, Sched.picked, List.getElem?_cons_succ, List.getElem?_cons_zero, Option.getD_some]
    obtain ⟨⟨a0, f0⟩, ⟨a1, f1⟩, ⟨a2, f2⟩, ⟨a3, f3⟩, ⟨a4, f4⟩, ⟨a5, f5⟩, ⟨a6, f6⟩, ⟨a7, f7⟩, hrow⟩ := yy33 HF1.out (.int .i64 yi) (.slice cA yo.length cC) (.bool ye) (.bool yr) (.bool yc) (.bool ym) (.int .i64 yp) (.string (bstr yn))
    have hoth := yy64 (b := wd.heap.size) HF2.out (by omega) (.int .i64 yi) (.slice cA yo.length cC) (.bool ye) (.bool yr) (.bool yc) (.bool ym) (.int .i64 yp) (.string (bstr yn))
    have hbel := yy38 (b := wd.heap.size) HB1.out (by omega) (.int .i64 yi) (.slice cA yo.length cC) (.bool ye) (.bool yr) (.bool yc) (.bool ym) (.int .i64 yp) (.string (bstr yn))
    refine Sched.walk_one (by rfl) (fun K hK => ?_)
    go_simp
    refine hK _ _ (yy38 (b := wd.heap.size) (Below.refl _ _) (by show wd.heap.size ≤ _; omega) (.int .i64 yi) (.slice cA yo.length cC) (.bool ye) (.bool yr) (.bool yc) (.bool ym) (.int .i64 yp) (.string (bstr yn))) ?_
    clear hK K a0 a1 a2 a3 a4 a5 a6 a7 f0 f1 f2 f3 f4 f5 f6 f7
    replace HF1 := xh hrow
    replace HF2 := xh hoth
    replace HB1 := xh hbel
    clear hrow hoth hbel
    generalize World.setCell _ ⟨wd.heap.size, 7, none⟩ _ = W3 at HF1 HF2 HB1 ⊢
    repeat (first | (refine Sched.yy733 (by rfl) (fun K hK => ?_); go_big_quiet_op; refine hK _ ?_; clear hK K) | (refine Sched.yy568 (by rfl) ?_; simp only [Act.put, xsa, xsz, xss]))
    obtain ⟨⟨a0, f0⟩, ⟨a1, f1⟩, ⟨a2, f2⟩, ⟨a3, f3⟩, ⟨a4, f4⟩, ⟨a5, f5⟩, ⟨a6, f6⟩, ⟨a7, f7⟩, hrow⟩ := yy33 HF2.out (.int .i64 yi) (.slice dA yo.length dC) (.bool ye) (.bool yr) (.bool yc) (.bool ym) (.int .i64 yp) (.string (bstr yn))
    have hoth := yy64 (b := wd.heap.size + 1) HF1.out (by omega) (.int .i64 yi) (.slice dA yo.length dC) (.bool ye) (.bool yr) (.bool yc) (.bool ym) (.int .i64 yp) (.string (bstr yn))
    have hbel := yy38 (b := wd.heap.size + 1) HB1.out (by omega) (.int .i64 yi) (.slice dA yo.length dC) (.bool ye) (.bool yr) (.bool yc) (.bool ym) (.int .i64 yp) (.string (bstr yn))
    refine Sched.walk_one (by rfl) (fun K hK => ?_)
    go_simp
    refine hK _ _ (yy38 (b := wd.heap.size + 1) (Below.refl _ _) (by show wd.heap.size ≤ _; omega) (.int .i64 yi) (.slice dA yo.length dC) (.bool ye) (.bool yr) (.bool yc) (.bool ym) (.int .i64 yp) (.string (bstr yn))) ?_
    clear hK K a0 a1 a2 a3 a4 a5 a6 a7 f0 f1 f2 f3 f4 f5 f6 f7
    replace HF2 := xh hrow
    replace HF1 := xh hoth
    replace HB1 := xh hbel
    clear hrow hoth hbel
    generalize World.setCell _ ⟨wd.heap.size + 1, 7, none⟩ _ = W4 at HF1 HF2 HB1 ⊢
    repeat (first | (refine Sched.yy733 (by rfl) (fun K hK => ?_); go_big_quiet_op; refine hK _ ?_; clear hK K) | (refine Sched.yy568 (by rfl) ?_; simp only [Act.put, xsa, xsz, xss]))
    refine Sched.walk_done ?_
    have HBW := xh (HBD.out.trans (HB1.out.mono HBD.out.size))
    obtain ⟨p0, p1, p2, p3, p4, p5, p6, p7⟩ := yy9 HF1.out
    obtain ⟨q0, q1, q2, q3, q4, q5, q6, q7⟩ := yy9 HF2.out
    go_wp2_with fail
    refine (GS.out _ HBW.out).mono ?_
    rintro e w5 ⟨rfl, hb⟩
    have hr6 := HF1.out.of_block (hb.block _ HF1.out.lt)
    have hr7 := HF2.out.of_block (hb.block _ HF2.out.lt)
    have HB5 := xh (HBW.out.trans (hb.mono HBW.out.size))
    clear hb p0 p1 p2 p3 p4 p5 p6 p7 q0 q1 q2 q3 q4 q5 q6 q7
    obtain ⟨p0, p1, p2, p3, p4, p5, p6, p7⟩ := yy9 hr6
    obtain ⟨q0, q1, q2, q3, q4, q5, q6, q7⟩ := yy9 hr7
    clear hr6 hr7
    go_wp2
    go_roundw
    case rel => exact ⟨k + 1, by omega, by go_num, trivial, trivial, HB5⟩
    case measure => simp [intOf]; omega
   ·skip
    refine Sched.walk_one (by rfl) (fun K hK => ?_)
    go_simp
    refine hK _ _ (yy405 (Nat.le_refl _) _) ?_
    clear hK K
    have HF1 := xh (yy24 wd 55 (.int .i64 0) (.slice none 0 0) (.bool false) (.bool false) (.bool false) (.bool false) (.int .i64 0) (.string { data := #[] }))
    have HB1 : Hid (Below wd.heap.size wd (wd.alloc (.cells #[.int .i64 0, .slice none 0 0, .bool false, .bool false, .bool false, .bool false, .int .i64 0, .string { data := #[] }] 55))) := xh ((Below.refl _ _).alloc (Nat.le_refl _) _)
    repeat (first | (refine Sched.yy733 (by rfl) (fun K hK => ?_); go_big_quiet_op; refine hK _ ?_; clear hK K) | (refine Sched.yy568 (by rfl) ?_; simp only [Act.put, xsa, xsz, xss]))
    refine Sched.walk_one (by rfl) (fun K hK => ?_)
    go_simp
    refine hK _ _ (yy405 (by simp [baseOf]) _) ?_
    clear hK K
    have HF2 := xh (yy24 (wd.alloc (.cells #[.int .i64 0, .slice none 0 0, .bool false, .bool false, .bool false, .bool false, .int .i64 0, .string { data := #[] }] 55)) 55 (.int .i64 0) (.slice none 0 0) (.bool false) (.bool false) (.bool false) (.bool false) (.int .i64 0) (.string { data := #[] }))
    replace HF1 := xh (HF1.out.alloc (.cells #[.int .i64 0, .slice none 0 0, .bool false, .bool false, .bool false, .bool false, .int .i64 0, .string { data := #[] }] 55))
    replace HB1 := xh (HB1.out.alloc HB1.out.size (.cells #[.int .i64 0, .slice none 0 0, .bool false, .bool false, .bool false, .bool false, .int .i64 0, .string { data := #[] }] 55))
    rw [World.size_alloc] at HF2
    generalize hW : World.alloc (wd.alloc (.cells #[.int .i64 0, .slice none 0 0, .bool false, .bool false, .bool false, .bool false, .int .i64 0, .string { data := #[] }] 55)) (.cells #[.int .i64 0, .slice none 0 0, .bool false, .bool false, .bool false, .bool false, .int .i64 0, .string { data := #[] }] 55) = W2 at HF1 HF2 HB1 ⊢
    clear hW
    repeat (first | (refine Sched.yy733 (by rfl) (fun K hK => ?_); go_big_quiet_op; refine hK _ ?_; clear hK K) | (refine Sched.yy568 (by rfl) ?_; simp only [Act.put, xsa, xsz, xss]))
    simp only [soS0, Sched.picked, List.getElem?_cons_succ, List.getElem?_cons_zero, Option.getD_some]
    obtain ⟨⟨a0, f0⟩, ⟨a1, f1⟩, ⟨a2, f2⟩, ⟨a3, f3⟩, ⟨a4, f4⟩, ⟨a5, f5⟩, ⟨a6, f6⟩, ⟨a7, f7⟩, hrow⟩ := yy33 HF2.out (.int .i64 yi) (.slice cA yo.length cC) (.bool ye) (.bool yr) (.bool yc) (.bool ym) (.int .i64 yp) (.string (bstr yn))
    have hoth := yy64 (b := wd.heap.size + 1) HF1.out (by omega) (.int .i64 yi) (.slice cA yo.length cC) (.bool ye) (.bool yr) (.bool yc) (.bool ym) (.int .i64 yp) (.string (bstr yn))
    have hbel := yy38 (b := wd.heap.size + 1) HB1.out (by omega) (.int .i64 yi) (.slice cA yo.length cC) (.bool ye) (.bool yr) (.bool yc) (.bool ym) (.int .i64 yp) (.string (bstr yn))
    refine Sched.walk_one (by rfl) (fun K hK => ?_)
    go_simp
    refine hK _ _ (yy38 (b := wd.heap.size + 1) (Below.refl _ _) (by show wd.heap.size ≤ _; omega) (.int .i64 yi) (.slice cA yo.length cC) (.bool ye) (.bool yr) (.bool yc) (.bool ym) (.int .i64 yp) (.string (bstr yn))) ?_
    clear hK K a0 a1 a2 a3 a4 a5 a6 a7 f0 f1 f2 f3 f4 f5 f6 f7
    replace HF2 := xh hrow
    replace HF1 := xh hoth
    replace HB1 := xh hbel
    clear hrow hoth hbel
    generalize World.setCell _ ⟨wd.heap.size + 1, 7, none⟩ _ = W3 at HF1 HF2 HB1 ⊢
    repeat (first | (refine Sched.yy733 (by rfl) (fun K hK => ?_); go_big_quiet_op; refine hK _ ?_; clear hK K) | (refine Sched.yy568 (by rfl) ?_; simp only [Act.put, xsa, xsz, xss]))
    obtain ⟨⟨a0, f0⟩, ⟨a1, f1⟩, ⟨a2, f2⟩, ⟨a3, f3⟩, ⟨a4, f4⟩, ⟨a5, f5⟩, ⟨a6, f6⟩, ⟨a7, f7⟩, hrow⟩ := yy33 HF1.out (.int .i64 yi) (.slice dA yo.length dC) (.bool ye) (.bool yr) (.bool yc) (.bool ym) (.int .i64 yp) (.string (bstr yn))
    have hoth := yy64 (b := wd.heap.size) HF2.out (by omega) (.int .i64 yi) (.slice dA yo.length dC) (.bool ye) (.bool yr) (.bool yc) (.bool ym) (.int .i64 yp) (.string (bstr yn))
    have hbel := yy38 (b := wd.heap.size) HB1.out (by omega) (.int .i64 yi) (.slice dA yo.length dC) (.bool ye) (.bool yr) (.bool yc) (.bool ym) (.int .i64 yp) (.string (bstr yn))
    refine Sched.walk_one (by rfl) (fun K hK => ?_)
    go_simp
    refine hK _ _ (yy38 (b := wd.heap.size) (Below.refl _ _) (by show wd.heap.size ≤ _; omega) (.int .i64 yi) (.slice dA yo.length dC) (.bool ye) (.bool yr) (.bool yc) (.bool ym) (.int .i64 yp) (.string (bstr yn))) ?_
    clear hK K a0 a1 a2 a3 a4 a5 a6 a7 f0 f1 f2 f3 f4 f5 f6 f7
    replace HF1 := xh hrow
    replace HF2 := xh hoth
    replace HB1 := xh hbel
    clear hrow hoth hbel
    generalize World.setCell _ ⟨wd.heap.size, 7, none⟩ _ = W4 at HF1 HF2 HB1 ⊢
    repeat (first | (refine Sched.yy733 (by rfl) (fun K hK => ?_); go_big_quiet_op; refine hK _ ?_; clear hK K) | (refine Sched.yy568 (by rfl) ?_; simp only [Act.put, xsa, xsz, xss]))
    refine Sched.walk_done ?_
    have HBW := xh (HBD.out.trans (HB1.out.mono HBD.out.size))
    obtain ⟨p0, p1, p2, p3, p4, p5, p6, p7⟩ := yy9 HF2.out
    obtain ⟨q0, q1, q2, q3, q4, q5, q6, q7⟩ := yy9 HF1.out
    go_wp2_with fail
    refine (GS.out _ HBW.out).mono ?_
    rintro e w5 ⟨rfl, hb⟩
    have hr6 := HF2.out.of_block (hb.block _ HF2.out.lt)
    have hr7 := HF1.out.of_block (hb.block _ HF1.out.lt)
    have HB5 := xh (HBW.out.trans (hb.mono HBW.out.size))
    clear hb p0 p1 p2 p3 p4 p5 p6 p7 q0 q1 q2 q3 q4 q5 q6 q7
    obtain ⟨p0, p1, p2, p3, p4, p5, p6, p7⟩ := yy9 hr6
    obtain ⟨q0, q1, q2, q3, q4, q5, q6, q7⟩ := yy9 hr7
    clear hr6 hr7
    go_wp2
    go_roundw
    case rel => exact ⟨k + 1, by omega, by go_num, trivial, trivial, HB5⟩
    case measure => simp [intOf]; omega
  ·obtain rfl : k = l.length := by omega
   go_wp2
   go_ret
   exact ⟨rfl, HBEL.out⟩
end Go.Proofs.YtjpjdkdbgjipnaaGreatDoor
