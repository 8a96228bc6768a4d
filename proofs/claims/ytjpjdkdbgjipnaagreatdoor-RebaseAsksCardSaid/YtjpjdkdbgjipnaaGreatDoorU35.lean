/- The document's own OverOnes: what was done, seen from behind acts. Conditions: no more than 2^20 records and acts, which may be held. -/
import Derived.Test.YtjpjdkdbgjipnaaGreatDoorU10
import Derived.Test.YtjpjdkdbgjipnaaGreatDoorU8
import Derived.Test.YtjpjdkdbgjipnaaGreatDoorU9
import Derived.Test.YtjpjdkdbgjipnaaGreatDoorU42
import Derived.Test.YtjpjdkdbgjipnaaGreatDoorU47
import Derived.Test.YtjpjdkdbgjipnaaGreatDoorU12
import Derived.BigQuiet
import Derived.Deep.CutRange
namespace Go.Proofs.YtjpjdkdbgjipnaaGreatDoor
open Go.RowKit Go.Deep
theorem yy256 {w : World} {a : Addr} {A : Option Addr} {n c : Nat} (h : w.cell? a = some (.slice A n c)) {B : Option Addr} {l : List CompV} (hc : yy8 w B l) (v : Value) : yy8 (w.setCell a v) B l := by
 rcases hc with h0 | ⟨b, off, e, hlt, hcell⟩
 ·exact .inl h0
 ·refine .inr ⟨b, off, e, by simpa using hlt, fun j u hj => ?_⟩
  have hq := hcell j u hj
  by_cases he : a = ⟨b, off + j, none⟩
  ·rw [← he, h] at hq
   injection hq with hq
   subst hq
   obtain ⟨y, _, hm⟩ := List.mem_flatMap.1 (List.mem_of_getElem? hj)
   simp [yy2] at hm
  ·rw [World.cell?_setCell_other _ _ _ _ he]
   exact hq
theorem yy708 {l : List OneV} {i : Nat} (hi : i < l.length) (q : List CompV) (A : Option Addr) (c : Nat) : (l.flatMap yy5).set (i * 8 + 1) (.slice A q.length c) = (l.set i ⟨{ l[i].k with ops := q }, A, c⟩).flatMap yy5 := by
 have e : l = l.take i ++ l[i] :: l.drop (i + 1) := by simp
 have hs : l.set i ⟨{ l[i].k with ops := q }, A, c⟩ = l.take i ++ (⟨{ l[i].k with ops := q }, A, c⟩ : OneV) :: l.drop (i + 1) := by rw [List.set_eq_take_append_cons_drop, if_pos hi]
 have hlen : ((l.take i).flatMap yy5).length = i * 8 := by rw [yy30 yy5 8 yy18, List.length_take]; congr 1; omega
 rw [hs, List.flatMap_append, List.flatMap_cons]
 generalize l[i] = y at e ⊢
 rw [show l.flatMap yy5 = (l.take i).flatMap yy5 ++ (yy5 y ++ (l.drop (i + 1)).flatMap yy5) from by
  have := congrArg (List.flatMap yy5) e
  rw [List.flatMap_append, List.flatMap_cons] at this
  exact this, List.set_append_right _ _ (by omega), hlen, Nat.add_sub_cancel_left]
 rfl
theorem yy757 {L : List OneV} {KA KC : List OneK} {x : OneK} (h : L.map (·.k) = KA ++ x :: KC) : ∃ hi : KA.length < L.length, L[KA.length].k = x := by
 have hl : L.length = KA.length + (KC.length + 1) := by have := congrArg List.length h; simpa using this
 refine ⟨by omega, ?_⟩
 have : (L.map (·.k))[KA.length]? = some x := by rw [h, List.getElem?_append_right (Nat.le_refl _)]; simp
 rw [List.getElem?_map, List.getElem?_eq_getElem (by omega)] at this
 simpa using this
theorem yy758 {L : List OneV} {KA KC : List OneK} {x : OneK} (h : L.map (·.k) = KA ++ x :: KC) (y : OneV) : (L.set KA.length y).map (·.k) = KA ++ y.k :: KC := by
 rw [List.map_set, h, List.set_append_right _ _ (Nat.le_refl _), Nat.sub_self]
 rfl
def OneH (w : World) (y : OneV) : Prop := y.Good ∧ KeyH y.k ∧ yy8 w y.opsA y.k.ops
theorem yy123 {x : OneK} {a : ActV} (h : ¬ ((a.kind = 4 ∧ a.id = x.id) ∧ x.ops ≠ [] ∧ (rOver true x.ops a.ops).2 = 0)) : yy32 x a = x := by unfold yy32; rw [if_neg h]
theorem yy384 {x : OneK} {a : ActV} (h : (a.kind = 4 ∧ a.id = x.id) ∧ x.ops ≠ [] ∧ (rOver true x.ops a.ops).2 = 0) : yy32 x a = { x with ops := (rOver true x.ops a.ops).1 } := by unfold yy32; rw [if_pos h]
set_option maxHeartbeats 16000000 in
set_option maxRecDepth 100000 in
theorem yy242 (A : Option Addr) (c : Nat) (bs : List OneV) (hl : bs.length ≤ 1048576) (hg : ∀ y ∈ bs, y.Good ∧ KeyH y.k) (B : Option Addr) (d : Nat) (l : List ActV) (hm : l.length ≤ 1048576) (hgm : ∀ a ∈ l, ActH a) (w : World) (hA : OnesAt w A bs) (hB : ActsAt w B l) :
  Calls Tryz.prog 30 #[.slice A bs.length c, .slice B l.length d] w fun e w' => (∃ A' c' L, e = .returned (.slice A' (List.length L) c') ∧ OnesAt w' A' L ∧ L.map (·.k) = overK (bs.map (·.k)) l ∧ ∀ y ∈ L, y.Good ∧ KeyH y.k) ∧ Below w.heap.size w w' := by
 have HROW : Hid (OneRow w A bs) := xh hA.1
 have HH0 : Hid (∀ y ∈ bs, OneH w y) := xh (fun y hy => ⟨(hg y hy).1, (hg y hy).2, hA.2 y hy⟩)
 have HACT := xh hB
 have HGA := xh hgm
 have hb0 := (Below.refl w.heap.size w).alloc (Nat.le_refl _) (.cells #[] 55)
 have HE0 := xh (OwnR.empty w (Nat.le_refl w.heap.size))
 have HR0 : Hid (OneRow (w.alloc (.cells #[] 55)) A bs) := xh (HROW.out.below hb0)
 have HB0 := xh hb0
 clear hA hB hg hgm hb0
 go_enter Tryz.func30, Tryz.ntmps30
 go_wp2_with (at_builtin
              refine yy88 rfl (.tmp 10) (.tmp 11) rfl (B := w.heap.size) (out := []) (m := bs) HE0.out (by simp) c HR0.out (by simp; omega) rfl rfl ?_
              rw [List.nil_append]
              intro A1 c1 w1 hown hbel
              have HO1 := xh hown
              have HB1 := xh (HB0.out.trans hbel)
              clear hown hbel)
 go_loopw [6, 7, 8, 9] (fun s6 s7 s8 s9 wr => ∃ (i : Nat) (L : List OneV), i ≤ bs.length ∧ s6 = .int .i64 (i : Int) ∧ s7 = s7 ∧ s8 = s8 ∧ s9 = s9 ∧ Hid (L.length = bs.length) ∧ Hid (L.map (·.k) = overK ((bs.map (·.k)).take i) l ++ (bs.map (·.k)).drop i) ∧ Hid (∀ y ∈ L, OneH wr y) ∧ Hid (OwnR wr w.heap.size A1 c1 L) ∧ Hid (Below w.heap.size w wr)) (fun s6 _ _ _ _ => bs.length - (intOf s6).toNat)
 case atStart => exact ⟨0, bs, Nat.zero_le _, rfl, rfl, rfl, rfl, xh rfl, xh (by simp [overK]), xh (fun y hy => ⟨(HH0.out y hy).1, (HH0.out y hy).2.1, (HH0.out y hy).2.2.below HB1.out⟩), HO1, HB1⟩
 case round =>
  clear HO1 HB1
  obtain ⟨i, L0, hi, rfl, _, _, _, HL0, HK0, HH, HO, HB1⟩ := hrel
  by_cases hlt : i < bs.length
  ·have hiI : (i : Int) < (bs.length : Int) := by omega
   obtain ⟨KA, HKA⟩ : ∃ q, Hid (overK ((bs.map (·.k)).take i) l = q) := ⟨_, xh rfl⟩
   obtain ⟨KC, HKC⟩ : ∃ q, Hid ((bs.map (·.k)).drop (i + 1) = q) := ⟨_, xh rfl⟩
   obtain ⟨x0, HX0⟩ : ∃ q, Hid (bs[i].k = q) := ⟨_, xh rfl⟩
   have HKL : Hid (KA.length = i) := xh (by rw [← HKA.out]; simp [overK]; omega)
   have HK1 : Hid (L0.map (·.k) = KA ++ x0 :: KC) := xh (by
    rw [HK0.out, HKA.out, ← HKC.out, ← HX0.out, List.drop_eq_getElem_cons (by simpa using hlt)]
    simp)
   have HNX : Hid (∀ x1, yy247 l x0 = x1 → overK ((bs.map (·.k)).take (i + 1)) l ++ (bs.map (·.k)).drop (i + 1) = KA ++ x1 :: KC) := xh (fun x1 h => by
    rw [List.take_succ_eq_append_getElem (by simpa using hlt), ← HKA.out, ← HKC.out, ← h, ← HX0.out]
    simp [overK])
   clear HK0
   go_wp2_with fail
   go_loopw [7, 8, 9] (fun s7 s8 s9 wr => ∃ (k : Nat) (L : List OneV), k ≤ l.length ∧ s7 = .int .i64 (k : Int) ∧ s8 = s8 ∧ s9 = s9 ∧ Hid (L.length = bs.length) ∧ Hid (L.map (·.k) = KA ++ (l.take k).foldl yy32 x0 :: KC) ∧ Hid (∀ y ∈ L, OneH wr y) ∧ Hid (OwnR wr w.heap.size A1 c1 L) ∧ Hid (Below w.heap.size w wr)) (fun s7 _ _ _ => l.length - (intOf s7).toNat)
   case atStart => exact ⟨0, L0, Nat.zero_le _, rfl, rfl, rfl, HL0, HK1, HH, HO, HB1⟩
   case round =>
    clear HL0 HK1 HH HO HB1
    obtain ⟨k, L, hk, rfl, _, _, HL0, HK1, HH, HO, HB1⟩ := hrel
    by_cases hlt2 : k < l.length
    ·obtain ⟨b, off, rfl, _⟩ := HACT.out.form (by omega)
     have hkI : (k : Int) < (l.length : Int) := by omega
     have HAC := xh (fun (Y : World) (h : Below w.heap.size w Y) => (HACT.out.below h).at_ hlt2)
     have HAO := xh (fun (Y : World) (h : Below w.heap.size w Y) => (HACT.out.below h).2 _ (List.getElem_mem hlt2))
     have HAH := xh (HGA.out _ (List.getElem_mem hlt2))
     have HST : Hid ((l.take (k + 1)).foldl yy32 x0 = yy32 ((l.take k).foldl yy32 x0) l[k]) := xh (by rw [List.take_succ_eq_append_getElem hlt2, List.foldl_append]; rfl)
     generalize l[k] = a at HAC HAO HAH HST
     generalize (l.take k).foldl yy32 x0 = x at HK1 HST
     have hmid := yy757 HK1.out
     rw [HKL.out] at hmid
     obtain ⟨hiL, hxk⟩ := hmid
     have HYH := xh (HH.out _ (List.getElem_mem hiL))
     obtain ⟨g, cap, hge, hgl, hgs⟩ := HO.out.form (by omega)
     injection hge with hge _ hcc
     subst hge
     subst hcc
     have HG := xh hgl
     have HXC := xh (fun (Y : World) (h : Below wr.heap.size wr Y) => (OnesAt.at_ (w := Y) (b := g) (off := 0) (l := L) ⟨(HO.out.below h).at_, fun y hy => (HH.out y hy).2.2.below h⟩ hiL))
     obtain ⟨y, HY⟩ : ∃ y, Hid (L[i] = y) := ⟨_, xh rfl⟩
     rw [HY.out] at HXC HYH hxk
     have HXK := xh hxk
     clear hgl hgs hxk
     have HBD := xh (Below.drew HB1.out)
     have HHD : Hid (∀ y ∈ L, OneH wr.drew y) := xh HH.out
     have HOD := xh HO.out.drew
     have HBW : Hid (Below wr.heap.size wr wr.drew) := xh (Below.drew (Below.refl _ _))
     have q0 := fun e : Ext wr.drew => (HAC.out e.val (HBD.out.trans (e.property.mono HBD.out.size))).1
     have q1 := fun e : Ext wr.drew => (HAC.out e.val (HBD.out.trans (e.property.mono HBD.out.size))).2.1
     have q2 := fun e : Ext wr.drew => (HXC.out e.val (HBW.out.trans (e.property.mono HBW.out.size))).1
     have q3 := fun e : Ext wr.drew => (HXC.out e.val (HBW.out.trans (e.property.mono HBW.out.size))).2.1
     simp only [Nat.zero_add] at q2 q3
     by_cases j4 : a.kind = 4
     rotate_left
     ·have d4 : (a.kind != 4) = true := by simpa using j4
      have HX9 : Hid ((l.take (k + 1)).foldl yy32 x0 = x) := xh (by rw [HST.out]; exact yy123 (fun h => j4 h.1.1))
      clear j4
      go_wp2_with fail
      refine wp_region_lit sc4 (by kernel_rfl) (by kernel_rfl) (fun _ _ d _ _ h => by cases d <;> exact h) ?_
      simp only [picked, sc4, xmc, xmn, xgs, xgz, xgd]
      generalize wr.drew = wz at HBD HHD HOD HBW q0 q1 q2 q3 ⊢
      repeat (first | (refine yy1 (by rfl) (fun K hK => ?_); go_big_quiet_op; refine hK _ ?_; clear hK K) | (refine yy3 (by rfl) ?_; simp only [Act.put, xsa, xsz, xss]) | (simp only [d4, xb9, xb0, xb7, xb8, xb6, xb5, xb4, xb2, xb1, xb3]))
      clear q0 q1 q2 q3
      refine yy25 ?_
      go_wp2_with fail
      go_roundw
      case rel => exact ⟨k + 1, L, by omega, by go_num, trivial, trivial, HL0, xh (by rw [HX9.out]; exact HK1.out), HHD, HOD, HBD⟩
      case measure => simp [intOf]; omega
     have d4 : (a.kind != 4) = false := by rw [j4]; rfl
     by_cases ji : a.id = y.k.id
     rotate_left
     ·have di : (a.id != y.k.id) = true := by simpa using ji
      have HX9 : Hid ((l.take (k + 1)).foldl yy32 x0 = x) := xh (by rw [HST.out]; exact yy123 (fun h => ji (by rw [HXK.out]; exact h.1.2)))
      clear j4 ji
      go_wp2_with fail
      refine wp_region_lit sc4 (by kernel_rfl) (by kernel_rfl) (fun _ _ d _ _ h => by cases d <;> exact h) ?_
      simp only [picked, sc4, xmc, xmn, xgs, xgz, xgd]
      generalize wr.drew = wz at HBD HHD HOD HBW q0 q1 q2 q3 ⊢
      repeat (first | (refine yy1 (by rfl) (fun K hK => ?_); go_big_quiet_op; refine hK _ ?_; clear hK K) | (refine yy3 (by rfl) ?_; simp only [Act.put, xsa, xsz, xss]) | (simp only [d4, di, xb9, xb0, xb7, xb8, xb6, xb5, xb4, xb2, xb1, xb3]))
      clear q0 q1 q2 q3
      refine yy25 ?_
      go_wp2_with fail
      go_roundw
      case rel => exact ⟨k + 1, L, by omega, by go_num, trivial, trivial, HL0, xh (by rw [HX9.out]; exact HK1.out), HHD, HOD, HBD⟩
      case measure => simp [intOf]; omega
     have di : (a.id != y.k.id) = false := by rw [ji]; simp
     by_cases jo : y.k.ops = []
     ·have dz : ((y.k.ops.length : Int) == 0) = true := by rw [jo]; rfl
      have HX9 : Hid ((l.take (k + 1)).foldl yy32 x0 = x) := xh (by rw [HST.out]; exact yy123 (fun h => h.2.1 (by rw [← HXK.out]; exact jo)))
      clear j4 ji jo
      go_wp2_with fail
      refine wp_region_lit sc4 (by kernel_rfl) (by kernel_rfl) (fun _ _ d _ _ h => by cases d <;> exact h) ?_
      simp only [picked, sc4, xmc, xmn, xgs, xgz, xgd]
      generalize wr.drew = wz at HBD HHD HOD HBW q0 q1 q2 q3 ⊢
      repeat (first | (refine yy1 (by rfl) (fun K hK => ?_); go_big_quiet_op; refine hK _ ?_; clear hK K) | (refine yy3 (by rfl) ?_; simp only [Act.put, xsa, xsz, xss]) | (simp only [d4, di, dz, xb9, xb0, xb7, xb8, xb6, xb5, xb4, xb2, xb1, xb3]))
      clear q0 q1 q2 q3
      refine yy25 ?_
      go_wp2_with fail
      go_roundw
      case rel => exact ⟨k + 1, L, by omega, by go_num, trivial, trivial, HL0, xh (by rw [HX9.out]; exact HK1.out), HHD, HOD, HBD⟩
      case measure => simp [intOf]; omega
     have dz : ((y.k.ops.length : Int) == 0) = false := xn (by have : y.k.ops.length ≠ 0 := fun h => jo (List.length_eq_zero_iff.1 h); omega)
     have HYES : Hid ((rOver true y.k.ops a.ops).2 = 0 → (l.take (k + 1)).foldl yy32 x0 = { y.k with ops := (rOver true y.k.ops a.ops).1 }) := xh (fun h => by
      rw [HST.out, ← HXK.out]
      exact yy384 ⟨⟨j4, ji⟩, jo, h⟩)
     have HNO : Hid ((rOver true y.k.ops a.ops).2 ≠ 0 → (l.take (k + 1)).foldl yy32 x0 = y.k) := xh (fun h => by
      rw [HST.out, ← HXK.out]
      exact yy123 (fun g => h g.2.2))
     clear j4 ji jo
     go_wp2_with fail
     refine wp_region_lit sc4 (by kernel_rfl) (by kernel_rfl) (fun _ _ d _ _ h => by cases d <;> exact h) ?_
     simp only [picked, sc4, xmc, xmn, xgs, xgz, xgd]
     generalize wr.drew = wz at HBD HHD HOD HBW q0 q1 q2 q3 ⊢
     repeat (first | (refine yy1 (by rfl) (fun K hK => ?_); go_big_quiet_op; refine hK _ ?_; clear hK K) | (refine yy3 (by rfl) ?_; simp only [Act.put, xsa, xsz, xss]) | (simp only [d4, di, dz, xb9, xb0, xb7, xb8, xb6, xb5, xb4, xb2, xb1, xb3]))
     clear q0 q1 q2 q3
     refine yy25 ?_
     have GO := xh (fun (Y : World) (hB : Below w.heap.size w Y) (hc : yy8 Y y.opsA y.k.ops) => yy228 y.opsA y.opsC y.k.ops a.opsA a.opsC a.ops HYH.out.2.1.1.max HAH.out.2.1.max HYH.out.2.1.1.fine HAH.out.2.1.fine true Y hc (HAO.out Y hB))
     generalize rOver true y.k.ops a.ops = R at GO HYES HNO
     obtain ⟨Q, q⟩ := R
     go_wp2_with fail
     refine wp_region_lit sc5 (by kernel_rfl) (by kernel_rfl) (fun _ _ d _ _ h => by cases d <;> exact h) ?_
     simp only [picked, sc5, xmc, xmn, xgs, xgz, xgd]
     have HBD2 := xh (Below.drew HBD.out)
     have HOD2 := xh HOD.out.drew
     have HHD2 : Hid (∀ y ∈ L, OneH wz.drew y) := xh HHD.out
     have HBW2 : Hid (Below wr.heap.size wr wz.drew) := xh (Below.drew HBW.out)
     have q3 := fun e : Ext wz.drew => (HXC.out e.val (HBW2.out.trans (e.property.mono HBW2.out.size))).2.1
     have q5 := fun e : Ext wz.drew => (HAC.out e.val (HBD2.out.trans (e.property.mono HBD2.out.size))).2.2.2.2.2
     simp only [Nat.zero_add] at q3
     generalize wz.drew = wv at HBD2 HHD2 HOD2 HBW2 q3 q5 ⊢
     repeat (first | (refine yy1 (by rfl) (fun K hK => ?_); go_big_quiet_op; refine hK _ ?_; clear hK K) | (refine yy3 (by rfl) ?_; simp only [Act.put, xsa, xsz, xss]) )
     clear q3 q5
     refine yy11 (by rfl) (fun K hK => ?_)
     go_simp
     have HYM : Hid (y ∈ L) := xh (by rw [← HY.out]; exact List.getElem_mem hiL)
     refine (GO.out wv HBD2.out (HHD2.out y HYM.out).2.2).mono ?_
     rintro e v2 ⟨⟨A3, c3, rfl, hown3⟩, hh3, hb⟩
     refine hK _ _ hb ?_
     clear hK K GO
     have HBV := xh (HBD2.out.trans (hb.mono HBD2.out.size))
     have HHV : Hid (∀ y ∈ L, OneH v2 y) := xh (fun y hy => ⟨(HHD2.out y hy).1, (HHD2.out y hy).2.1, (HHD2.out y hy).2.2.below hb⟩)
     have HOV := xh (HOD2.out.below hb)
     have HQH := xh hh3
     have HQR := xh hown3
     have HBWV := xh (HBW2.out.trans (hb.mono HBW2.out.size))
     clear hb hh3 hown3 HBD2 HHD2 HOD2 HBW2 HBD HHD HOD HBW
     repeat (first | (refine yy1 (by rfl) (fun K hK => ?_); go_big_quiet_op; refine hK _ ?_; clear hK K) | (refine yy3 (by rfl) ?_; simp only [Act.put, xsa, xsz, xss]) )
     refine yy25 ?_
     by_cases hq : q = 0
     ·have dq : ((q : Int) == 0) = true := by rw [hq]; rfl
      have HX9 := xh (HYES.out hq)
      clear hq HYES HNO
      have c1' := (HXC.out v2 HBWV.out).2.1
      simp only [Nat.zero_add] at c1'
      have f1 := World.ownsRow.frozenAt HOV.out (i * 8 + 1)
      have hst := (World.ownsRow.stored HOV.out (i * 8 + 1) (.slice A3 Q.length c3)).1
      rw [yy708 hiL, HY.out] at hst
      have HC1 := xh c1'
      have HLS : Hid ((L.set i ⟨{ y.k with ops := Q }, A3, c3⟩).length = bs.length) := xh (by rw [List.length_set]; exact HL0.out)
      have HO9 : Hid (OwnR (v2.setCell ⟨g, i * 8 + 1, none⟩ (.slice A3 Q.length c3)) w.heap.size (some ⟨g, 0, none⟩) c1 (L.set i ⟨{ y.k with ops := Q }, A3, c3⟩)) := xh (by
       unfold OwnR
       rw [List.length_set]
       exact hst)
      have HB9 := xh (HBV.out.setCell (p := ⟨g, i * 8 + 1, none⟩) HG.out (.slice A3 Q.length c3))
      have HK9 : Hid ((L.set i ⟨{ y.k with ops := Q }, A3, c3⟩).map (·.k) = KA ++ (l.take (k + 1)).foldl yy32 x0 :: KC) := xh (by
       have := yy758 HK1.out (⟨{ y.k with ops := Q }, A3, c3⟩ : OneV)
       rw [HKL.out] at this
       rw [this, HX9.out])
      have HH9 : Hid (∀ z ∈ L.set i ⟨{ y.k with ops := Q }, A3, c3⟩, OneH (v2.setCell ⟨g, i * 8 + 1, none⟩ (.slice A3 Q.length c3)) z) := xh (fun z hz => by
       rcases List.mem_or_eq_of_mem_set hz with h | h
       ·exact ⟨(HHV.out z h).1, (HHV.out z h).2.1, yy256 HC1.out (HHV.out z h).2.2 _⟩
       ·rw [h]
        refine ⟨⟨HYH.out.1.1, HYH.out.1.2.1, HYH.out.1.2.2.1, HQH.out.good, ?_, ?_⟩, ⟨HQH.out, HYH.out.2.1.2⟩, yy256 HC1.out (yy7.of_own HQR.out) _⟩
        ·rcases HQR.out.2 with ⟨_, h0⟩ | ⟨_, _, _, e, _, _, h3, _⟩
         ·exact Nat.le_trans (Nat.le_of_eq h0) (Nat.zero_le _)
         ·injection e with _ _ e; show Q.length ≤ c3; simp only at h3 e; omega
        ·rcases HQR.out.2 with ⟨e, _⟩ | ⟨_, _, _, e, _, _, _, h4, _⟩
         ·injection e with _ _ e; rw [e]; exact Nat.zero_le _
         ·injection e with _ _ e; rw [e]; exact h4)
      clear hst
      go_wp2_with fail
      go_roundw
      case rel => exact ⟨k + 1, _, by omega, by go_num, trivial, trivial, HLS, HK9, HH9, HO9, HB9⟩
      case measure => simp [intOf]; omega
     ·have dq : ((q : Int) == 0) = false := xn (by omega)
      have HX9 := xh (HNO.out hq)
      clear hq HYES HNO
      go_wp2_with fail
      go_roundw
      case rel => exact ⟨k + 1, L, by omega, by go_num, trivial, trivial, HL0, xh (by rw [HX9.out, HXK.out]; exact HK1.out), HHV, HOV, HBV⟩
      case measure => simp [intOf]; omega
    ·obtain rfl : k = l.length := by omega
     rw [List.take_length] at HK1
     have HLK := xh (HK1.out.trans (HNX.out _ rfl).symm)
     go_wp2_with fail
     go_roundw
     case rel => exact ⟨i + 1, L, by omega, by go_num, trivial, trivial, trivial, HL0, HLK, HH, HO, HB1⟩
     case measure => simp [intOf]; omega
  ·obtain rfl : i = bs.length := by omega
   go_wp2
   go_ret
   exact ⟨⟨A1, c1, L0, by simp [HL0.out], ⟨HO.out.at_, fun y hy => (HH.out y hy).2.2⟩, by rw [HK0.out, List.drop_of_length_le (by simp), List.take_of_length_le (by simp), List.append_nil], fun y hy => ⟨(HH.out y hy).1, (HH.out y hy).2.1⟩⟩, HB1.out⟩
end Go.Proofs.YtjpjdkdbgjipnaaGreatDoor
