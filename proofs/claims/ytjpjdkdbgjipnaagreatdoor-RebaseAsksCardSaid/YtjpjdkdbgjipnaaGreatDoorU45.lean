/- The document's own SameActs: two lists of acts. Condition: no slice and no text is longer than memory. (Merged of 4 texts.) -/
import Derived.Test.YtjpjdkdbgjipnaaGreatDoorU48
import Derived.Test.YtjpjdkdbgjipnaaGreatDoorU46
import Derived.Test.YtjpjdkdbgjipnaaGreatDoorU12
import Derived.Test.YtjpjdkdbgjipnaaGreatDoorU7
import Derived.Test.YtjpjdkdbgjipnaaGreatDoorU21
import Derived.Test.YtjpjdkdbgjipnaaGreatDoorU6
import Derived.BigQuiet
namespace Go.Proofs.YtjpjdkdbgjipnaaGreatDoor
open Go.RowKit Go.Deep
def yy76 (limit : Nat) (c : ActV) : List Nat := [c.name.length, yy27 limit c.ops, 3]
def yy34 (limit : Nat) (l : List ActV) : Nat := wts limit 0 (l.map (yy76 limit))
set_option maxHeartbeats 1000000 in
set_option maxRecDepth 100000 in
theorem yy304 (limit : Nat) (b off cap : Nat) (l : List ActV) (hl : l.length ≤ maxLen) (hg : ∀ y ∈ l, y.Good) (w : World) (hc : ActsAt w (some ⟨b, off, none⟩) l) :
  Calls Tryz.prog 4 #[.slice (some ⟨b, off, none⟩) l.length cap, .int .i64 (limit : Int)] w fun e w' => e = .returned (.int .i64 ((yy34 limit l : Nat) : Int)) ∧ Below w.heap.size w w' := by
 unfold maxLen at hl
 have HC := xh hc; clear hc
 have HG := xh hg; clear hg
 obtain ⟨T, HT⟩ : ∃ T, Hid (yy34 limit l = T) := ⟨_, rfl⟩
 rw [HT.out]
 go_enter Tryz.func4, Tryz.ntmps4
 go_wp2
 go_loopw [5, 6] (fun t i wr => ∃ k m : Nat, k ≤ l.length ∧ i = .int .i64 k ∧ t = .int .i64 (m : Int) ∧ m ≤ 1099511627776 ∧ wts limit m ((l.map (yy76 limit)).drop k) = T ∧ Below w.heap.size w wr) (fun _ i _ => l.length - (intOf i).toNat)
 case atStart => exact ⟨0, 0, Nat.zero_le _, rfl, rfl, by omega, HT.out, Below.refl _ _⟩
 case round =>
  obtain ⟨k, m, hk, rfl, rfl, hm, he, hbel⟩ := hrel
  have HE := xh he; clear he
  have HB := xh hbel; clear hbel
  by_cases hlt : k < l.length
  ·have HW := xh (HE.out ▸ yy272 limit m (l.map (yy76 limit)) k (by simpa using hlt) : T = _)
   have HX : Hid ((l.map (yy76 limit))[k]'(by simpa using hlt) = [l[k].name.length, yy27 limit l[k].ops, 3]) := by show _ = _; rw [List.getElem_map]; rfl
   by_cases hml : m ≤ limit
   ·have HCA := xh ((HC.out.below HB.out).at_ hlt)
    have hgk := HG.out _ (List.getElem_mem hlt)
    have hx1 := hgk.2.2.2.1.2
    have hx2 : l[k].ops.length ≤ maxLen := Nat.le_trans hgk.2.2.2.2.2.1 hgk.2.2.2.2.2.2
    have HCM := xh (fun (wx : World) (hh : yy8 wx l[k].opsA l[k].ops) => yy183 limit l[k].opsC hx2 hgk.2.2.2.2.1 wx hh)
    have HOP := xh (HC.out.2 _ (List.getElem_mem hlt))
    clear hgk
    unfold maxLen at hx1 hx2
    have hs1 := bstr_size l[k].name
    obtain ⟨S1, HS1⟩ : ∃ S, Hid (bstr l[k].name = S) := ⟨bstr l[k].name, xh rfl⟩
    obtain ⟨a, HA⟩ : ∃ a, Hid (l[k].name.length = a) := ⟨l[k].name.length, xh rfl⟩
    obtain ⟨c, HCC⟩ : ∃ a, Hid (yy27 limit l[k].ops = a) := ⟨yy27 limit l[k].ops, xh rfl⟩
    have hc40 : c ≤ 1099511627776 := by rw [← HCC.out]; exact yy343 limit _ 0 (by omega)
    obtain ⟨O, HO⟩ : ∃ a, Hid (l[k].ops = a) := ⟨l[k].ops, xh rfl⟩
    obtain ⟨OA, HOA⟩ : ∃ a, Hid (l[k].opsA = a) := ⟨l[k].opsA, xh rfl⟩
    obtain ⟨OC, HOC⟩ : ∃ a, Hid (l[k].opsC = a) := ⟨l[k].opsC, xh rfl⟩
    rw [HS1.out, HO.out, HOA.out, HOC.out] at HCA
    rw [HS1.out] at hs1
    rw [HA.out] at hs1 hx1 HX
    rw [HCC.out] at HX HCM
    rw [HO.out, HOC.out, HOA.out] at HCM
    rw [HO.out, HOA.out] at HOP
    have hk2 : Hid (wr.cell? ⟨b, off + k * 6 + 3, none⟩ = some (.string S1)) := HCA.out.2.2.2.1
    have hk4 : Hid (wr.cell? ⟨b, off + k * 6 + 5, none⟩ = some (.slice OA O.length OC)) := HCA.out.2.2.2.2.2
    have HR : Hid (wts limit (capSum m [a, c, 3]) ((l.map (yy76 limit)).drop (k + 1)) = T) := by show _ = _; rw [HW.out, if_pos hml, HX.out]
    obtain ⟨r, HRR⟩ : ∃ r, Hid (capSum m [a, c, 3] = r) := ⟨_, rfl⟩
    have hr : r ≤ 1099511627776 := by rw [← HRR.out]; exact yy91 _ m hm
    rw [HRR.out] at HR
    have HN := xh (fun (wx : World) (t : TypeId) g hg' => yy217 wx t #[.int .i64 (a : Int), .int .i64 (c : Int), .int .i64 3] [a, c, 3] (fun j x hx => by
     match j, hx with
     | 0, hx => cases hx; rfl
     | 1, hx => cases hx; rfl
     | 2, hx => cases hx; rfl) g hg')
    have HS := xh (fun (wx : World) g (hn : NatsAt wx g 0 [a, c, 3]) => yy83 m (by omega) g 0 3 [a, c, 3] (by simp [maxLen]) (by simp; omega) wx hn)
    rw [HRR.out] at HS
    clear HW HRR HCA
    go_wp2_with fail
    refine wp_region_lit sc0 (by kernel_rfl) (by kernel_rfl) (fun _ _ d _ _ h => by cases d <;> exact h) ?_
    simp only [picked, sc0, xmc, xmn, xgs, xgz, xgd]
    have hq2 := fun e : Ext wr.drew => Ext.cell (w := wr.drew) hk2.out e
    have hq4 := fun e : Ext wr.drew => Ext.cell (w := wr.drew) hk4.out e
    repeat (first | (refine yy1 (by rfl) (fun K hK => ?_); go_big_quiet_op; refine hK _ ?_; clear hK K) | (refine yy3 (by rfl) ?_; simp only [Act.put, xsa, xsz, xss]))
    clear hq2 hq4
    refine yy11 (by rfl) (fun K hK => ?_)
    go_simp
    refine (HCM.out _ (yy8.drew (HOP.out.below HB.out))).mono ?_
    rintro e w1 ⟨rfl, hb1⟩
    have HB1 := xh hb1
    refine hK _ _ hb1 ?_
    clear hK K hb1
    repeat (first | (refine yy1 (by rfl) (fun K hK => ?_); go_big_quiet_op; refine hK _ ?_; clear hK K) | (refine yy3 (by rfl) ?_; simp only [Act.put, xsa, xsz, xss]))
    refine yy11 (by rfl) (fun K hK => ?_)
    go_simp
    refine hK _ _ ((Below.refl _ _).alloc (Nat.le_refl _) _) ?_
    clear hK K
    repeat (first | (refine yy1 (by rfl) (fun K hK => ?_); go_big_quiet_op; refine hK _ ?_; clear hK K) | (refine yy3 (by rfl) ?_; simp only [Act.put, xsa, xsz, xss]))
    refine yy11 (by rfl) (fun K hK => ?_)
    go_simp
    refine (HS.out _ _ (HN.out w1 _ _ rfl)).mono ?_
    rintro e w2 ⟨rfl, rfl⟩
    refine hK _ _ (Below.refl _ _) ?_
    clear hK K
    repeat (first | (refine yy1 (by rfl) (fun K hK => ?_); go_big_quiet_op; refine hK _ ?_; clear hK K) | (refine yy3 (by rfl) ?_; simp only [Act.put, xsa, xsz, xss]))
    refine yy25 ?_
    go_wp2
    go_roundw
    case rel => exact ⟨k + 1, r, by omega, by go_num, rfl, hr, HR.out, balloc (bstep HB.out.drew HB1.out) _⟩
    case measure => simp [intOf]; omega
   ·have HR : Hid (m = T) := by show _ = _; rw [HW.out, if_neg hml]
    have hml' : limit < m := by omega
    go_wp2
    go_ret
    exact ⟨by rw [← HR.out]; rfl, HB.out⟩
  ·have HR : Hid (m = T) := by
    show m = T
    rw [← HE.out, List.drop_eq_nil_of_le (by simp; omega), yy125]
   go_wp2
   go_ret
   exact ⟨by rw [← HR.out]; rfl, HB.out⟩
theorem yy185 (limit : Nat) (A : Option Addr) (cap : Nat) (w : World) :
  Calls Tryz.prog 4 #[.slice A 0 cap, .int .i64 (limit : Int)] w fun e w' => e = .returned (.int .i64 ((yy34 limit [] : Nat) : Int)) ∧ Below w.heap.size w w' := by
 have HR : Hid (0 = yy34 limit []) := by show 0 = yy34 limit []; rw [yy34, List.map_nil, yy125]
 go_enter Tryz.func4, Tryz.ntmps4
 go_wp2
 refine wp_loop_rounds 1 ?_
 rw [rounds_succ]
 go_wp2
 go_ret
 exact ⟨by rw [← HR.out]; rfl, Below.refl _ _⟩
theorem yy132 {A : Option Addr} {l : List ActV} (limit : Nat) (cap : Nat) (hl : l.length ≤ maxLen) (hg : ∀ y ∈ l, y.Good) (w : World) (h : ActsAt w A l) :
  Calls Tryz.prog 4 #[.slice A l.length cap, .int .i64 (limit : Int)] w fun e w' => e = .returned (.int .i64 ((yy34 limit l : Nat) : Int)) ∧ Below w.heap.size w w' := by
 cases l with
 | nil => exact yy185 limit A cap w
 | cons c l =>
  obtain ⟨b, off, rfl, _⟩ := h.form (by simp)
  exact yy304 limit b off cap _ hl hg w h
noncomputable def sameB (l m : List CompV) : Bool := @decide (l = m) (Classical.propDecidable _)
theorem yy153 {l m : List CompV} (h : l = m) : sameB l m = true := by unfold sameB; exact @decide_eq_true _ (Classical.propDecidable _) h
theorem yy174 {l m : List CompV} (h : ¬ l = m) : sameB l m = false := by unfold sameB; exact @decide_eq_false _ (Classical.propDecidable _) h
theorem yy516 (l : List CompV) : sameB l l = true := yy153 rfl
set_option maxHeartbeats 2000000 in
set_option maxRecDepth 100000 in
theorem yy250 (A B : Option Addr) (ca cb : Nat) (l m : List CompV) (hl : l.length ≤ maxLen) (hm : m.length ≤ maxLen) (hgl : ∀ y ∈ l, y.Good) (hgm : ∀ y ∈ m, y.Good) (w : World) (hA : yy8 w A l) (hB : yy8 w B m) :
  Calls Tryz.prog 34 #[.slice A l.length ca, .slice B m.length cb] w fun e w' => e = .returned (.bool (sameB l m)) ∧ Below w.heap.size w w' := by
 unfold maxLen at hl hm
 have HA := xh hA; clear hA
 have HB := xh hB; clear hB
 have HGL := xh hgl; clear hgl
 have HGM := xh hgm; clear hgm
 obtain ⟨T, HT⟩ : ∃ T, Hid (sameB l m = T) := ⟨_, xh rfl⟩
 rw [HT.out]
 by_cases hlen : l.length = m.length
 ·rw [← hlen]
  have HLEN := xh hlen
  clear hlen
  go_enter Tryz.func34, Tryz.ntmps34
  go_wp2
  go_loopw [5] (fun i wr => ∃ k : Nat, k ≤ l.length ∧ i = .int .i64 k ∧ l.take k = m.take k ∧ Below w.heap.size w wr) (fun i _ => l.length - (intOf i).toNat)
  case atStart => exact ⟨0, Nat.zero_le _, rfl, rfl, Below.refl _ _⟩
  case round =>
   obtain ⟨k, hk, rfl, htk, hbel⟩ := hrel
   have HBEL := xh hbel; clear hbel
   have HTK := xh htk; clear htk
   by_cases hlt : k < l.length
   ·have hlt2 : k < m.length := by have := HLEN.out; omega
    obtain ⟨b1, o1, rfl, _⟩ := HA.out.form (by omega)
    obtain ⟨b2, o2, rfl, _⟩ := HB.out.form (by omega)
    obtain ⟨x0, x1, x2⟩ := (HA.out.below HBEL.out).at_ hlt
    obtain ⟨y0, y1, y2⟩ := (HB.out.below HBEL.out).at_ hlt2
    have HYES : Hid (l[k] = m[k] → l.take (k + 1) = m.take (k + 1)) := fun h => by rw [List.take_succ_eq_append_getElem hlt, List.take_succ_eq_append_getElem hlt2, HTK.out, h]
    have HNO : Hid (l[k] ≠ m[k] → T = false) := fun h => by rw [← HT.out]; exact yy174 fun e => h (by subst e; rfl)
    have HG1 := xh (HGL.out l[k] (List.getElem_mem hlt))
    have HG2 := xh (HGM.out m[k] (List.getElem_mem hlt2))
    generalize l[k] = c at x0 x1 x2 HYES HNO HG1
    generalize m[k] = d at y0 y1 y2 HYES HNO HG2
    clear hlt2
    obtain ⟨kd, n, tx⟩ := c
    obtain ⟨kd2, n2, tx2⟩ := d
    simp only at x0 x1 x2 y0 y1 y2
    by_cases e0 : kd = kd2
    ·subst e0
     by_cases e1 : n = n2
     ·subst e1
      by_cases e2 : tx = tx2
      ·subst e2
       go_wp2_with fail
       go_region
       go_wp2
       go_roundw
       case rel => exact ⟨k + 1, by omega, by go_num, HYES.out trivial, HBEL.out.drew⟩
       case measure => simp [intOf]; omega
      ·have HF : Hid (T = false) := HNO.out fun h => e2 (by injection h)
       have g2 : ((bstr tx).toList == (bstr tx2).toList) = false := bstr_neq fun h => e2 (bstr_inj _ _ HG1.out.2.2.1 HG2.out.2.2.1 h)
       have g2' : ((bstr tx).toList != (bstr tx2).toList) = true := by rw [bne, g2]; rfl
       clear e2
       go_wp2_with fail
       go_region
       go_wp2
       go_ret
       exact ⟨by rw [HF.out]; rfl, HBEL.out.drew⟩
     ·have HF : Hid (T = false) := HNO.out fun h => e1 (by injection h)
      have g1 : (n == n2) = false := xn e1
      have g1' : (n != n2) = true := bne_iff_ne.2 e1
      clear e1
      go_wp2_with fail
      go_region
      go_wp2
      go_ret
      exact ⟨by rw [HF.out]; rfl, HBEL.out.drew⟩
    ·have HF : Hid (T = false) := HNO.out fun h => e0 (by injection h)
     have g0 : (kd == kd2) = false := xn e0
     have g0' : (kd != kd2) = true := bne_iff_ne.2 e0
     clear e0
     go_wp2_with fail
     go_region
     go_wp2
     go_ret
     exact ⟨by rw [HF.out]; rfl, HBEL.out.drew⟩
   ·have HF : Hid (T = true) := by
     show T = true
     rw [← HT.out]
     apply yy153
     have := HTK.out
     rwa [List.take_of_length_le (by omega), List.take_of_length_le (by have := HLEN.out; omega)] at this
    go_wp2
    go_ret
    exact ⟨by rw [HF.out]; rfl, HBEL.out⟩
 ·have HF : Hid (T = false) := by show T = false; rw [← HT.out]; exact yy174 fun h => hlen (by rw [h])
  have g0 : ((l.length : Int) == (m.length : Int)) = false := xn (by omega)
  have g0' : ((l.length : Int) != (m.length : Int)) = true := bne_iff_ne.2 (by omega)
  clear hlen
  go_enter Tryz.func34, Tryz.ntmps34
  go_wp2
  go_ret
  exact ⟨by rw [HF.out]; rfl, Below.refl _ _⟩
def keepL (n : Int) : List CompV := if n < 1 then [] else [⟨1, n, []⟩]
set_option maxHeartbeats 2000000 in
set_option maxRecDepth 100000 in
theorem yy161 (a b : ActV) (ha : a.Good) (hb : b.Good) (w : World) (hA : yy8 w a.opsA a.ops) (hB : yy8 w b.opsA b.ops) :
  Calls Tryz.prog 33 #[.agg (yy0 a).toArray, .agg (yy0 b).toArray] w fun e w' => e = .returned (.bool (sameA a b)) ∧ Below w.heap.size w w' := by
 have GS := xh (fun w' (h : Below w.heap.size w w') => yy250 a.opsA b.opsA a.opsC b.opsC a.ops b.ops (by have := ha.2.2.2.2.2; unfold maxLen at *; omega) (by have := hb.2.2.2.2.2; unfold maxLen at *; omega) ha.2.2.2.2.1 hb.2.2.2.2.1 w' (hA.below h) (hB.below h))
 have hn := ha.2.2.2.1
 have hn2 := hb.2.2.2.1
 have hb2 := ((Below.refl w.heap.size w).alloc (Nat.le_refl _) (.cells (yy0 a).toArray 26)).alloc (by simp) (.cells (yy0 b).toArray 26)
 clear ha hb hA hB
 obtain ⟨k, i, p, n, d, A, c, o⟩ := a
 obtain ⟨k2, i2, p2, n2, d2, A2, c2, o2⟩ := b
 simp only at GS hn hn2
 by_cases h0 : k = k2
 ·subst h0
  by_cases h1 : i = i2
  ·subst h1
   by_cases h2 : p = p2
   ·subst h2
    by_cases h3 : n = n2
    ·subst h3
     by_cases h4 : d = d2
     ·subst h4
      rw [show sameA ⟨k, i, p, n, d, A, c, o⟩ ⟨k, i, p, n, d, A2, c2, o2⟩ = sameB o o2 from by
       by_cases h : o = o2
       ·rw [yy153 h]; exact yy150 (by simp [aKey, h])
       ·rw [yy174 h]; exact yy62 (fun e => h (by simpa [aKey] using e))]
      generalize sameB o o2 = T at GS
      have eT : (if T = true then T else false) = T := by cases T <;> rfl
      unfold yy0 at hb2 ⊢
      simp only at hb2
      go_enter Tryz.func33, Tryz.ntmps33
      go_wp2_with fail
      refine (GS.out _ hb2).mono ?_
      rintro e w2 ⟨rfl, hb3⟩
      go_wp2
      go_ret
      exact ⟨rfl, hb2.trans (hb3.mono hb2.size)⟩
     ·skip
      rw [yy62 fun e => h4 (by simp only [aKey, Prod.mk.injEq] at e; exact e.2.2.2.2.1)]
      have g : (d == d2) = false := xn h4
      clear h4 GS
      unfold yy0 at hb2 ⊢
      go_enter Tryz.func33, Tryz.ntmps33
      go_wp2
      go_ret
      exact ⟨rfl, hb2⟩
    ·skip
     rw [yy62 fun e => h3 (by simp only [aKey, Prod.mk.injEq] at e; exact e.2.2.2.1)]
     have g : ((bstr n).toList == (bstr n2).toList) = false := bstr_neq fun h => h3 (bstr_inj _ _ hn.1 hn2.1 h)
     clear h3 GS
     unfold yy0 at hb2 ⊢
     go_enter Tryz.func33, Tryz.ntmps33
     go_wp2
     go_ret
     exact ⟨rfl, hb2⟩
   ·skip
    rw [yy62 fun e => h2 (by simp only [aKey, Prod.mk.injEq] at e; exact e.2.2.1)]
    have g : (p == p2) = false := xn h2
    clear h2 GS
    unfold yy0 at hb2 ⊢
    go_enter Tryz.func33, Tryz.ntmps33
    go_wp2
    go_ret
    exact ⟨rfl, hb2⟩
  ·skip
   rw [yy62 fun e => h1 (by simp only [aKey, Prod.mk.injEq] at e; exact e.2.1)]
   have g : (i == i2) = false := xn h1
   clear h1 GS
   unfold yy0 at hb2 ⊢
   go_enter Tryz.func33, Tryz.ntmps33
   go_wp2
   go_ret
   exact ⟨rfl, hb2⟩
 ·skip
  rw [yy62 fun e => h0 (by simp only [aKey, Prod.mk.injEq] at e; exact e.1)]
  have g : (k == k2) = false := xn h0
  clear h0 GS
  unfold yy0 at hb2 ⊢
  go_enter Tryz.func33, Tryz.ntmps33
  go_wp2
  go_ret
  exact ⟨rfl, hb2⟩
set_option maxHeartbeats 4000000 in
set_option maxRecDepth 100000 in
theorem yy243 (A B : Option Addr) (ca cb : Nat) (l m : List ActV) (hl : l.length ≤ maxLen) (hm : m.length ≤ maxLen) (hgl : ∀ y ∈ l, y.Good) (hgm : ∀ y ∈ m, y.Good) (w : World) (hA : ActsAt w A l) (hB : ActsAt w B m) :
  Calls Tryz.prog 13 #[.slice A l.length ca, .slice B m.length cb] w fun e w' => e = .returned (.bool (sameAs l m)) ∧ Below w.heap.size w w' := by
 unfold maxLen at hl hm
 have HA := xh hA; clear hA
 have HB := xh hB; clear hB
 obtain ⟨T, HT⟩ : ∃ T, Hid (sameAs l m = T) := ⟨_, xh rfl⟩
 rw [HT.out]
 by_cases hlen : l.length = m.length
 ·rw [← hlen]
  have HLEN := xh hlen
  clear hlen
  go_enter Tryz.func13, Tryz.ntmps13
  go_wp2
  go_loopw [5] (fun i wr => ∃ k : Nat, k ≤ l.length ∧ i = .int .i64 k ∧ Hid ((l.take k).map aKey = (m.take k).map aKey) ∧ Hid (Below w.heap.size w wr)) (fun i _ => l.length - (intOf i).toNat)
  case atStart => exact ⟨0, Nat.zero_le _, rfl, xh rfl, xh (Below.refl _ _)⟩
  case round =>
   obtain ⟨k, hk, rfl, HTK, HBEL⟩ := hrel
   by_cases hlt : k < l.length
   ·have hlt2 : k < m.length := by have := HLEN.out; omega
    have hltI : (k : Int) < (l.length : Int) := by omega
    obtain ⟨b1, o1, rfl, _⟩ := HA.out.form (by omega)
    obtain ⟨b2, o2, rfl, _⟩ := HB.out.form (by omega)
    have HX : Hid (∀ X : World, Below w.heap.size w X → _) := xh (fun X h => (HA.out.below h).at_ hlt)
    have HY : Hid (∀ X : World, Below w.heap.size w X → _) := xh (fun X h => (HB.out.below h).at_ hlt2)
    have HYES : Hid (aKey l[k] = aKey m[k] → (l.take (k + 1)).map aKey = (m.take (k + 1)).map aKey) := xh (fun h => by rw [List.take_succ_eq_append_getElem hlt, List.take_succ_eq_append_getElem hlt2, List.map_append, List.map_append, HTK.out, List.map_singleton, List.map_singleton, h])
    have HNO : Hid (aKey l[k] ≠ aKey m[k] → T = false) := xh (fun h => by
     rw [← HT.out]
     refine yy409 fun e => h ?_
     have e2 := congrArg (fun q => q[k]?) e
     simpa [List.getElem?_map, List.getElem?_eq_getElem hlt, List.getElem?_eq_getElem hlt2] using e2)
    have GS := xh (fun (w' : World) (h : Below w.heap.size w w') => yy161 l[k] m[k] (hgl _ (List.getElem_mem hlt)) (hgm _ (List.getElem_mem hlt2)) w' ((HA.out.below h).2 _ (List.getElem_mem hlt)) ((HB.out.below h).2 _ (List.getElem_mem hlt2)))
    clear hgl hgm
    generalize l[k] = c at HX HYES HNO GS
    generalize m[k] = d at HY HYES HNO GS
    obtain ⟨S, HSS⟩ : ∃ S, Hid (sameA c d = S) := ⟨_, xh rfl⟩
    rw [HSS.out] at GS
    unfold yy0 at GS
    have hb0 := Below.drew HBEL.out
    go_wp2_with fail
    refine wp_region_lit sc13 (by kernel_rfl) (by kernel_rfl) (fun _ _ d _ _ h => by cases d <;> exact h) ?_
    simp only [picked, sc13, xmc, xmn, xgs, xgz, xgd]
    generalize wr.drew = wd at hb0 ⊢
    have HB0 := xh hb0
    clear hb0
    have p0 := fun e : Ext wd => (HX.out e.val (HB0.out.trans (e.property.mono HB0.out.size))).1
    have p1 := fun e : Ext wd => (HX.out e.val (HB0.out.trans (e.property.mono HB0.out.size))).2.1
    have p2 := fun e : Ext wd => (HX.out e.val (HB0.out.trans (e.property.mono HB0.out.size))).2.2.1
    have p3 := fun e : Ext wd => (HX.out e.val (HB0.out.trans (e.property.mono HB0.out.size))).2.2.2.1
    have p4 := fun e : Ext wd => (HX.out e.val (HB0.out.trans (e.property.mono HB0.out.size))).2.2.2.2.1
    have p5 := fun e : Ext wd => (HX.out e.val (HB0.out.trans (e.property.mono HB0.out.size))).2.2.2.2.2
    have q0 := fun e : Ext wd => (HY.out e.val (HB0.out.trans (e.property.mono HB0.out.size))).1
    have q1 := fun e : Ext wd => (HY.out e.val (HB0.out.trans (e.property.mono HB0.out.size))).2.1
    have q2 := fun e : Ext wd => (HY.out e.val (HB0.out.trans (e.property.mono HB0.out.size))).2.2.1
    have q3 := fun e : Ext wd => (HY.out e.val (HB0.out.trans (e.property.mono HB0.out.size))).2.2.2.1
    have q4 := fun e : Ext wd => (HY.out e.val (HB0.out.trans (e.property.mono HB0.out.size))).2.2.2.2.1
    have q5 := fun e : Ext wd => (HY.out e.val (HB0.out.trans (e.property.mono HB0.out.size))).2.2.2.2.2
    repeat (refine yy1 (by rfl) (fun K hK => ?_); go_big_quiet_op; refine hK _ ?_; clear hK K)
    clear p0 p1 p2 p3 p4 p5 q0 q1 q2 q3 q4 q5
    refine yy11 (by rfl) (fun K hK => ?_)
    go_simp
    refine (GS.out _ HB0.out).mono ?_
    rintro e x1 ⟨rfl, hb⟩
    have HB1 := xh (HB0.out.trans (hb.mono HB0.out.size))
    refine hK _ _ hb ?_
    clear hK K hb GS
    repeat (refine yy1 (by rfl) (fun K hK => ?_); go_big_quiet_op; refine hK _ ?_; clear hK K)
    refine yy25 ?_
    cases S with
    | true =>
     have HE : Hid (aKey c = aKey d) := by
      show _
      by_cases h : aKey c = aKey d
      ·exact xh h
      ·have := HSS.out
       rw [yy62 h] at this
       cases this
     have HR := xh (HYES.out HE.out)
     clear HYES HNO
     go_wp2
     go_roundw
     case rel => exact ⟨k + 1, by omega, by go_num, HR, HB1⟩
     case measure => simp [intOf]; omega
    | false =>
     have HF := xh (HNO.out fun h => by
      have := HSS.out
      rw [yy150 h] at this
      cases this)
     go_wp2
     go_ret
     exact ⟨by rw [HF.out]; rfl, HB1.out⟩
   ·have HF : Hid (T = true) := by
     show T = true
     rw [← HT.out]
     apply yy310
     have := HTK.out
     rwa [List.take_of_length_le (by omega), List.take_of_length_le (by have := HLEN.out; omega)] at this
    go_wp2
    go_ret
    exact ⟨by rw [HF.out]; rfl, HBEL.out⟩
 ·have HF : Hid (T = false) := by show T = false; rw [← HT.out]; exact yy409 fun h => hlen (by have := congrArg List.length h; simpa using this)
  have g0 : ((l.length : Int) == (m.length : Int)) = false := xn (by omega)
  have g0' : ((l.length : Int) != (m.length : Int)) = true := bne_iff_ne.2 (by omega)
  clear hlen
  go_enter Tryz.func13, Tryz.ntmps13
  go_wp2
  go_ret
  exact ⟨by rw [HF.out]; rfl, Below.refl _ _⟩
end Go.Proofs.YtjpjdkdbgjipnaaGreatDoor
