/- The contract of alike.Message at a message of commits alone: their weight, held at a limit; what was there stays as it was. Condition: no slice and no text is longer than memory. -/
import Derived.Test.YtjpjdkdbgjipnaaGreatDoorU45
import Derived.Test.YtjpjdkdbgjipnaaGreatDoorU41
import Derived.Test.YtjpjdkdbgjipnaaGreatDoorU46
import Derived.Test.YtjpjdkdbgjipnaaGreatDoorU9
import Derived.Laws.Rows
import Derived.Deep.CutRange
import Derived.BigQuiet
namespace Go.Proofs.YtjpjdkdbgjipnaaGreatDoor
open Go.RowKit Go.Deep
def yy100 (limit : Nat) (c : CommitV) : List Nat := [yy34 limit c.acts, 3]
def yy162 (limit : Nat) (l : List CommitV) : Nat := wts limit 0 (l.map (yy100 limit))
set_option maxHeartbeats 4000000 in
set_option maxRecDepth 100000 in
theorem yy479 (limit : Nat) (_hlim : limit < 1099511627776) (A : Option Addr) (cap : Nat) (l : List CommitV) (hl : l.length ≤ maxLen) (hg : ∀ y ∈ l, y.Good) (w : World) (hc : yy52 w A l) :
  Calls Tryz.prog 6 #[.agg #[.int .i64 0, .int .i64 0, .int .i64 0, .int .i64 0, .int .i64 0, .slice none 0 0, .slice A l.length cap, .slice none 0 0, .int .i64 0], .int .i64 (limit : Int)] w fun e w' => e = .returned (.int .i64 ((yy162 limit l : Nat) : Int)) ∧ Below w.heap.size w w' := by
 unfold maxLen at hl
 have HC := xh (fun (X : World) (h : Below w.heap.size w X) => hc.below h)
 have HG := xh hg
 have GA := xh (fun (X : World) => yy185 limit none 0 X)
 have GN := xh (fun (X : World) => yy291 limit none 0 X)
 have e1 : yy34 limit [] = 0 := by rw [yy34, List.map_nil, yy125]
 have e2 : yy81 limit [] = 0 := by rw [yy81, List.map_nil, yy125]
 rw [e1] at GA
 rw [e2] at GN
 have hcs : capSum 0 [0] = 0 := by simp [capSum]
 have HS0 := xh (fun (wx : World) (g : Nat) (hn : NatsAt wx g 0 [0]) => yy83 0 (by omega) g 0 1 [0] (by simp [maxLen]) (by simp) wx hn)
 rw [hcs] at HS0
 rw [show ((0 : Nat) : Int) = 0 from rfl] at GA GN HS0
 have HN0 := xh (fun (wx : World) (t : TypeId) g hg' => yy217 wx t #[.int .i64 (0 : Int)] [0] (fun j x hx => by
  match j, hx with
  | 0, hx => cases hx; rfl) g hg')
 clear hc hg e1 e2 hcs
 obtain ⟨T, HT⟩ : ∃ T, Hid (yy162 limit l = T) := ⟨_, rfl⟩
 rw [HT.out]
 obtain ⟨g, hgg⟩ : ∃ g, g = w.heap.size := ⟨_, rfl⟩
 have hrow := heap_alloc_new w (.cells #[.int .i64 0, .int .i64 0, .int .i64 0, .int .i64 0, .int .i64 0, .slice none 0 0, .slice A l.length cap, .slice none 0 0, .int .i64 0] 33)
 have hb0 : Below w.heap.size w (w.alloc (.cells #[.int .i64 0, .int .i64 0, .int .i64 0, .int .i64 0, .int .i64 0, .slice none 0 0, .slice A l.length cap, .slice none 0 0, .int .i64 0] 33)) := (Below.refl _ _).alloc (Nat.le_refl _) _
 rw [← hgg] at hrow hb0 HC
 have HGG := xh hgg
 clear hgg
 obtain ⟨W0, HW0⟩ : ∃ x, Hid (w.alloc (.cells #[.int .i64 0, .int .i64 0, .int .i64 0, .int .i64 0, .int .i64 0, .slice none 0 0, .slice A l.length cap, .slice none 0 0, .int .i64 0] 33) = x) := ⟨_, xh rfl⟩
 rw [HW0.out] at hrow hb0
 have HROW := xh hrow
 have HB := xh hb0
 clear hrow hb0
 rw [← HGG.out]
 go_enter Tryz.func6, Tryz.ntmps6
 go_upto_region 1 with fail
 rw [← HGG.out, HW0.out]
 clear HW0
 refine wp_region_lit sc11 (by kernel_rfl) (by kernel_rfl) (fun _ _ d _ _ h => by cases d <;> exact h) ?_
 simp only [picked, sc11, xmc, xmn, xgs, xgz, xgd]
 have z5 : W0.cell? ⟨g, 5, none⟩ = some (.slice none 0 0) := cell_of_row _ _ _ _ _ _ HROW.out
 have z7 : W0.cell? ⟨g, 7, none⟩ = some (.slice none 0 0) := cell_of_row _ _ _ _ _ _ HROW.out
 have hlt : g < W0.heap.size := (Array.getElem?_eq_some_iff.1 HROW.out).1
 have q5 := fun e : Ext W0.drew => Ext.cell (w := W0.drew) z5 e
 have q7 := fun e : Ext W0.drew => Ext.cell (w := W0.drew) z7 e
 have HLT := xh hlt
 replace HB := xh HB.out.drew
 replace HROW : Hid (W0.drew.heap[g]? = some (.cells #[.int .i64 0, .int .i64 0, .int .i64 0, .int .i64 0, .int .i64 0, .slice none 0 0, .slice A l.length cap, .slice none 0 0, .int .i64 0] 33 (0, 0))) := HROW
 replace HLT : Hid (g < W0.drew.heap.size) := HLT
 clear z5 z7 hlt
 generalize W0.drew = wd at HB HROW HLT q5 q7
 repeat (first | (refine yy1 (by rfl) (fun K hK => ?_); go_big_quiet_op; refine hK _ ?_; clear hK K) | (refine yy3 (by rfl) ?_; simp only [Act.put, xsa, xsz, xss]))
 clear q5 q7
 refine yy11 (by rfl) (fun K hK => ?_)
 go_simp
 refine (GA.out _).mono ?_
 rintro e w1 ⟨rfl, hb⟩
 replace HB := xh (HB.out.trans (hb.mono (Nat.le_of_lt HLT.out)))
 replace HROW := xh ((hb.block _ HLT.out).trans HROW.out)
 replace HLT := xh (Nat.lt_of_lt_of_le HLT.out hb.size)
 refine hK _ _ hb ?_
 clear hK K hb
 refine yy11 (by rfl) (fun K hK => ?_)
 go_simp
 refine (GN.out _).mono ?_
 rintro e w2 ⟨rfl, hb⟩
 replace HB := xh (HB.out.trans (hb.mono (Nat.le_of_lt HLT.out)))
 replace HROW := xh ((hb.block _ HLT.out).trans HROW.out)
 replace HLT := xh (Nat.lt_of_lt_of_le HLT.out hb.size)
 refine hK _ _ hb ?_
 clear hK K hb
 refine yy11 (by rfl) (fun K hK => ?_)
 go_simp
 refine hK _ _ ((Below.refl _ _).alloc (Nat.le_refl _) _) ?_
 clear hK K
 refine yy11 (by rfl) (fun K hK => ?_)
 go_simp
 refine (HS0.out _ _ (HN0.out w2 _ _ rfl)).mono ?_
 rintro e w3 ⟨rfl, rfl⟩
 have hba := (Below.refl w2.heap.size w2).alloc (Nat.le_refl _) (Obj.cells #[.int .i64 0] 3)
 replace HB := xh (HB.out.trans (hba.mono (Nat.le_of_lt HLT.out)))
 replace HROW := xh ((hba.block _ HLT.out).trans HROW.out)
 replace HLT := xh (Nat.lt_of_lt_of_le HLT.out hba.size)
 refine hK _ _ (Below.refl _ _) ?_
 clear hK K hba
 generalize w2.alloc (Obj.cells #[.int .i64 0] 3) = wz at HB HROW HLT ⊢
 repeat (first | (refine yy1 (by rfl) (fun K hK => ?_); go_big_quiet_op; refine hK _ ?_; clear hK K) | (refine yy3 (by rfl) ?_; simp only [Act.put, xsa, xsz, xss]))
 refine yy25 ?_
 go_wp2
 go_loopw [5, 6] (fun t i wr => ∃ k m : Nat, k ≤ l.length ∧ i = .int .i64 k ∧ t = .int .i64 (m : Int) ∧ m ≤ 1099511627776 ∧ Hid (wts limit m ((l.map (yy100 limit)).drop k) = T) ∧ Hid (wr.heap[g]? = some (.cells #[.int .i64 0, .int .i64 0, .int .i64 0, .int .i64 0, .int .i64 0, .slice none 0 0, .slice A l.length cap, .slice none 0 0, .int .i64 0] 33 (0, 0))) ∧ Hid (Below g w wr)) (fun _ i _ => l.length - (intOf i).toNat)
 case atStart => exact ⟨0, 0, Nat.zero_le _, rfl, rfl, by omega, HT, HROW, HB⟩
 case round =>
  clear HB HROW HLT HT
  obtain ⟨k, m, hk, rfl, rfl, hm, HE, HROW, HB⟩ := hrel
  have z6 : wr.cell? ⟨g, 6, none⟩ = some (.slice A l.length cap) := cell_of_row _ _ _ _ _ _ HROW.out
  have HLT : Hid (g < wr.heap.size) := xh (Array.getElem?_eq_some_iff.1 HROW.out).1
  by_cases hlt : k < l.length
  ·have hltI : (k : Int) < (l.length : Int) := by omega
   have HW := xh (HE.out ▸ yy272 limit m (l.map (yy100 limit)) k (by simpa using hlt) : T = _)
   have HX : Hid ((l.map (yy100 limit))[k]'(by simpa using hlt) = [yy34 limit l[k].acts, 3]) := by show _ = _; rw [List.getElem_map]; rfl
   by_cases hml : m ≤ limit
   ·have hmi : (m : Int) ≤ (limit : Int) := by omega
    have hCw := HC.out _ HB.out
    obtain ⟨b, off, rfl, _⟩ := hCw.form (by omega)
    obtain ⟨_, _, _, y3⟩ := hCw.at_ hlt
    have hgk := HG.out _ (List.getElem_mem hlt)
    have hx2 : l[k].acts.length ≤ maxLen := Nat.le_trans hgk.2.2.2.2.1 hgk.2.2.2.2.2
    have HCM := xh (fun (wx : World) (hh : ActsAt wx l[k].actsA l[k].acts) => yy132 limit l[k].actsC hx2 hgk.2.2.2.1 wx hh)
    have HOP := xh (hCw.2 _ (List.getElem_mem hlt))
    clear hgk hx2 hCw
    obtain ⟨c, HCC⟩ : ∃ a, Hid (yy34 limit l[k].acts = a) := ⟨_, xh rfl⟩
    have hc40 : c ≤ 1099511627776 := by rw [← HCC.out]; exact yy343 limit _ 0 (by omega)
    rw [HCC.out] at HX HCM
    clear HCC
    generalize l[k] = y at y3 HCM HOP
    have HR : Hid (wts limit (capSum m [c, 3]) ((l.map (yy100 limit)).drop (k + 1)) = T) := by show _ = _; rw [HW.out, if_pos hml, HX.out]
    obtain ⟨r, HRR⟩ : ∃ r, Hid (capSum m [c, 3] = r) := ⟨_, rfl⟩
    have hr : r ≤ 1099511627776 := by rw [← HRR.out]; exact yy91 _ m hm
    rw [HRR.out] at HR
    have HN := xh (fun (wx : World) (t : TypeId) g hg' => yy217 wx t #[.int .i64 (c : Int), .int .i64 3] [c, 3] (fun j x hx => by
     match j, hx with
     | 0, hx => cases hx; rfl
     | 1, hx => cases hx; rfl) g hg')
    have HS := xh (fun (wx : World) g (hn : NatsAt wx g 0 [c, 3]) => yy83 m (by omega) g 0 2 [c, 3] (by simp [maxLen]) (by simp; omega) wx hn)
    rw [HRR.out] at HS
    clear HW HRR HX HE
    go_wp2_with fail
    refine (HCM.out _ HOP.out).mono ?_
    rintro e w1 ⟨rfl, hb1⟩
    have HB1 := xh (HB.out.trans (hb1.mono (Nat.le_of_lt HLT.out)))
    have HROW1 := xh ((hb1.block _ HLT.out).trans HROW.out)
    have HLT1 := xh (Nat.lt_of_lt_of_le HLT.out hb1.size)
    clear hb1 z6 y3 HB HROW HLT HOP HCM
    go_wp2_with fail
    refine (HS.out _ _ (HN.out w1 _ _ (by simp))).mono ?_
    rintro e w2 ⟨rfl, rfl⟩
    have hba := (Below.refl w1.heap.size w1).alloc (Nat.le_refl _) (Obj.cells #[.int .i64 (c : Int), .int .i64 3] 3)
    have HB2 := xh (HB1.out.trans (hba.mono (Nat.le_of_lt HLT1.out)))
    have HROW2 := xh ((hba.block _ HLT1.out).trans HROW1.out)
    clear hba
    go_wp2
    go_roundw
    case rel => exact ⟨k + 1, r, by omega, by go_num, rfl, hr, HR, HROW2, HB2⟩
    case measure => simp [intOf]; omega
   ·have HR : Hid (m = T) := by show _ = _; rw [HW.out, if_neg hml]
    have hml' : limit < m := by omega
    clear HW HX
    go_wp2
    go_ret
    exact ⟨by rw [← HR.out]; rfl, HB.out⟩
  ·have HR : Hid (m = T) := by
    show m = T
    rw [← HE.out, List.drop_eq_nil_of_le (by simp; omega), yy125]
   have hltI : ¬ (k : Int) < (l.length : Int) := by omega
   go_wp2
   go_ret
   exact ⟨by rw [← HR.out]; rfl, HB.out⟩
theorem yy629 {lim : Nat} (hlim : lim ≤ 4000) {l : List CommitV} (h : yy162 lim l ≤ lim) : l.length ≤ 4000 ∧ ∀ y ∈ l, yy34 lim y.acts ≤ lim := by
 obtain ⟨h1, h2⟩ := yy278 (yy100 lim) lim (by omega) l h
 have h3 := yy148 (yy100 lim) (fun x => by simp [yy100]) l
 refine ⟨by omega, fun y hy => ?_⟩
 have h4 := h1 y hy
 simp only [yy100, List.sum_cons, List.sum_nil] at h4
 omega
end Go.Proofs.YtjpjdkdbgjipnaaGreatDoor
