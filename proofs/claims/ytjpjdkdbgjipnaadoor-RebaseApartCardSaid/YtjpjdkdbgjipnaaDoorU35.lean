/- The document's own Touches: what acts name. Condition: no more than 2^20 acts. -/
import Derived.Test.YtjpjdkdbgjipnaaDoorU8
import Derived.Test.YtjpjdkdbgjipnaaDoorU24
import Derived.Test.YtjpjdkdbgjipnaaDoorU34
import Derived.Test.YtjpjdkdbgjipnaaDoorU1
import Derived.BigQuiet
import Derived.Deep.CutRange
import Derived.Deep.CutBlock
namespace Go.Proofs.YtjpjdkdbgjipnaaDoor
open Go.RowKit Go.Deep
def nT0 : Sched Nat := (.one 10 (.one 14 (.quiet 15 .done)))
def nT1 : Sched Nat := (.one 4 nT0)
def nT : Sched Nat := (.quiet 1 (.quiet 2 (.quiet 3 (.quiet 5 (.quiet 6 (.quiet 7 (.quiet 8 (.quiet 11 (.quiet 12 (.quiet 13 (.two 0 (.two 4 (.one 9 nT0) 9 nT1) 9 (.one 0 nT1))))))))))))
def tchN (l : List ActV) (k : Nat) : List Int := ((l.take k).flatMap aIds).foldl tPut []
theorem yy361 (l : List ActV) : tchN l 0 = [] := by simp [tchN]
theorem yy514 {l : List ActV} {k : Nat} (hk : k < l.length) : tchN l (k + 1) = (aIds l[k]).foldl tPut (tchN l k) := by
 unfold tchN
 rw [List.take_succ_eq_append_getElem hk, List.flatMap_append, List.foldl_append]
 simp
theorem yy837 (l : List ActV) : tchN l l.length = tch l := by rw [tchN, List.take_length]; rfl
theorem yy663 {l : List ActV} : ∀ {k : Nat}, k ≤ l.length → (tchN l k).length ≤ 2 * k
 | 0, _ => by rw [yy361]; simp
 | k + 1, hk => by
  have h1 := yy663 (l := l) (k := k) (by omega)
  have h2 := yy208 (aIds l[k]) (tchN l k)
  have h3 := yy615 l[k]
  rw [yy514 (by omega)]
  omega
theorem OwnK.one (w : World) {B : Nat} (h : B ≤ w.heap.size) (x : Int) : OwnK (w.alloc (.cells #[.int .i64 x] 3)) B (some ⟨w.heap.size, 0, none⟩) 1 [x] := World.ownsRow_lit w #[.int .i64 x] 1 h (by simp [maxLen]) rfl
set_option maxHeartbeats 16000000 in
set_option maxRecDepth 100000 in
theorem yy127 (A : Option Addr) (c : Nat) (l : List ActV) (hl : l.length ≤ 1048576) (w : World) (hA : ActsAt w A l) :
  Calls Tryd.prog 14 #[.slice A l.length c] w fun e w' => (∃ A' c', e = .returned (.slice A' (tch l).length c') ∧ NumsAt w' A' (tch l)) ∧ Below w.heap.size w w' := by
 have HA := xh hA; clear hA
 rw [← yy837]
 go_enter Tryd.func14, Tryd.ntmps14
 go_wp2
 go_loopw [3, 4, 5, 6, 7] (fun s3 s4 s5 s6 s7 wr => ∃ (k : Nat) (A1 : Option Addr) (c1 : Nat), k ≤ l.length ∧ s3 = .slice A1 (tchN l k).length c1 ∧ s4 = .int .i64 (k : Int) ∧ s5 = s5 ∧ s6 = s6 ∧ s7 = s7 ∧ Hid (OwnK wr w.heap.size A1 c1 (tchN l k)) ∧ Hid (Below w.heap.size w wr)) (fun _ s4 _ _ _ _ => l.length - (intOf s4).toNat)
 case atStart => exact ⟨0, none, 0, Nat.zero_le _, by rw [yy361]; rfl, rfl, rfl, rfl, rfl, by rw [yy361]; exact xh (OwnK.nil _ _), xh (Below.refl _ _)⟩
 case round =>
  obtain ⟨k, A1, c1, hk, rfl, rfl, _, _, _, HO, HBEL⟩ := hrel
  obtain ⟨wo, hwo⟩ : ∃ x, x = wr := ⟨wr, rfl⟩
  subst hwo
  by_cases hlt : k < l.length
  ·have HAW := xh (HA.out.below HBEL.out)
   obtain ⟨b, off, rfl, _⟩ := HA.out.form (by omega)
   obtain ⟨z0, z1, z2, _, _, _⟩ := HAW.out.at_ hlt
   have hlI : (k : Int) < (l.length : Int) := by omega
   have HT := xh (yy514 hlt)
   have hlen := yy663 (l := l) (k := k) (by omega)
   generalize tchN l k = acc at HO HT hlen ⊢
   generalize l[k] = a at z0 z1 z2 HT
   obtain ⟨ak, ai, ap, an, ad, aA, aC, ao⟩ := a
   simp only at z0 z1 z2
   obtain ⟨bb, HBB⟩ : ∃ bb, Hid (((ak = 1 ∨ ak = 3) ∧ ap ≠ 0 → bb = true) ∧ (¬ ((ak = 1 ∨ ak = 3) ∧ ap ≠ 0) → bb = false)) := by
    by_cases h : (ak = 1 ∨ ak = 3) ∧ ap ≠ 0
    ·exact ⟨true, xh ⟨fun _ => rfl, fun g => absurd h g⟩⟩
    ·exact ⟨false, xh ⟨fun g => absurd g h, fun _ => rfl⟩⟩
   have HBW : Hid (Below w.heap.size w (wo.alloc (.cells #[.int .i64 ai] 3))) := xh (HBEL.out.alloc HBEL.out.size _)
   have HI0 : Hid (OwnK (wo.alloc (.cells #[.int .i64 ai] 3)) wo.heap.size (some ⟨wo.heap.size, 0, none⟩) 1 [ai]) := xh (OwnK.one wo (Nat.le_refl _) ai)
   have HBO : Hid (Below wo.heap.size wo (wo.alloc (.cells #[.int .i64 ai] 3))) := xh ((Below.refl _ _).alloc (Nat.le_refl _) _)
   have HO0 := HO
   have HZ : Hid ((wo.alloc (.cells #[.int .i64 ai] 3)).cell? ⟨b, off + k * 6, none⟩ = some (.int .i64 ak) ∧ (wo.alloc (.cells #[.int .i64 ai] 3)).cell? ⟨b, off + k * 6 + 2, none⟩ = some (.int .i64 ap)) := xh (by
    have hb := (Below.refl wo.heap.size wo).alloc (Nat.le_refl _) (.cells #[.int .i64 ai] 3)
    exact ⟨(hb.cell (World.block_lt_of_cell? _ _ z0)).trans z0, (hb.cell (World.block_lt_of_cell? _ _ z2)).trans z2⟩)
   replace HO : Hid (OwnK (wo.alloc (.cells #[.int .i64 ai] 3)) w.heap.size A1 c1 acc) := xh (HO.out.alloc _)
   go_upto_region 6 with fail
   generalize wo.alloc (.cells #[.int .i64 ai] 3) = wz at HBW HI0 HBO HZ HO ⊢
   obtain ⟨y0, y2⟩ := HZ.out
   clear z0 z1 z2
   go_cut [41] from 8 to 102 (fun s41 wc => s41 = .bool bb ∧ wc = wz)
   case first =>
    by_cases i1 : ak = 1
    ·have d1 : (ak == 1) = true := by rw [i1]; rfl
     by_cases i3 : ap = 0
     ·have d3 : (ap != 0) = false := by rw [i3]; rfl
      have HF := xh (HBB.out.2 (fun h => h.2 i3))
      clear i1 i3
      go_wp2
      go_meet
      case rel => exact ⟨by rw [HF.out], rfl⟩
     ·have d3 : (ap != 0) = true := by simpa using i3
      have HF := xh (HBB.out.1 ⟨.inl i1, i3⟩)
      clear i1 i3
      go_wp2
      go_meet
      case rel => exact ⟨by rw [HF.out], rfl⟩
    have d1 : (ak == 1) = false := xn i1
    by_cases i2 : ak = 3
    ·have d2 : (ak == 3) = true := by rw [i2]; rfl
     by_cases i3 : ap = 0
     ·have d3 : (ap != 0) = false := by rw [i3]; rfl
      have HF := xh (HBB.out.2 (fun h => h.2 i3))
      clear i1 i2 i3
      go_wp2
      go_meet
      case rel => exact ⟨by rw [HF.out], rfl⟩
     ·have d3 : (ap != 0) = true := by simpa using i3
      have HF := xh (HBB.out.1 ⟨.inr i2, i3⟩)
      clear i1 i2 i3
      go_wp2
      go_meet
      case rel => exact ⟨by rw [HF.out], rfl⟩
    have d2 : (ak == 3) = false := xn i2
    have HF := xh (HBB.out.2 (fun h => by rcases h.1 with g | g; exact i1 g; exact i2 g))
    clear i1 i2
    go_wp2
    go_meet
    case rel => exact ⟨by rw [HF.out], rfl⟩
   case rest =>
    obtain ⟨rfl, rfl⟩ := hcut
    obtain ⟨R, HT3⟩ : ∃ R, Hid ((aIds ⟨ak, ai, ap, an, ad, aA, aC, ao⟩).foldl tPut acc = R) := ⟨_, xh rfl⟩
    have HT4 : Hid (tchN l (k + 1) = R) := xh (HT.out.trans HT3.out)
    clear HT
    have HT := HT4
    clear HT4
    cases bb with
    | false =>
     have HID : Hid (aIds ⟨ak, ai, ap, an, ad, aA, aC, ao⟩ = [ai]) := xh (by
      unfold aIds
      by_cases h : (ak = 1 ∨ ak = 3) ∧ ap ≠ 0
      ·exact absurd (HBB.out.1 h) (by simp)
      ·rw [if_neg h])
     rw [HID.out] at HT3
     have HI := xh (yy33 HI0.out HBEL.out.size)
     generalize wo.heap.size = g2 at HI ⊢
     obtain ⟨ids, HIDS⟩ : ∃ ids, Hid ([ai] = ids) := ⟨_, xh rfl⟩
     have HIL : Hid (ids.length = 1) := xh (by rw [← HIDS.out]; rfl)
     have HT2 : Hid (ids.foldl tPut acc = R) := xh (by rw [← HIDS.out]; exact HT3.out)
     replace HI : Hid (OwnK wc w.heap.size (some ⟨g2, 0, none⟩) 1 ids) := xh (by rw [← HIDS.out]; exact HI.out)
     clear HID HIDS HT3 y0 y2
     go_wp2_with fail
     go_loopw [3, 6, 7] (fun s3 s6 s7 wr => ∃ (j : Nat) (P : List Int) (A3 : Option Addr) (c3 : Nat), j ≤ 1 ∧ s3 = .slice A3 P.length c3 ∧ s6 = .int .i64 (j : Int) ∧ s7 = s7 ∧ P.length ≤ acc.length + j ∧ Hid ((ids.drop j).foldl tPut P = R) ∧ Hid (OwnK wr w.heap.size A3 c3 P) ∧ Hid (OwnK wr w.heap.size (some ⟨g2, 0, none⟩) 1 ids) ∧ Hid (Below w.heap.size w wr)) (fun _ s6 _ _ => 1 - (intOf s6).toNat)
     case atStart => exact ⟨0, acc, A1, c1, Nat.zero_le _, rfl, rfl, rfl, Nat.le_refl _, xh (by rw [List.drop_zero]; exact HT2.out), HO, HI, HBW⟩
     case round =>
      clear HO HI HBW
      obtain ⟨j, P, A3, c3, hj, rfl, rfl, _, hPl, HR, HOP, HI, HBL⟩ := hrel
      obtain ⟨wj, hwj⟩ : ∃ y, y = wr := ⟨wr, rfl⟩
      subst hwj
      by_cases hlt2 : j < 1
      ·have hjl : j < ids.length := by rw [HIL.out]; omega
       have hjI : (j : Int) < 1 := by omega
       obtain ⟨x, HX⟩ : ∃ x, Hid (ids[j] = x) := ⟨_, xh rfl⟩
       have HR1 : Hid ((ids.drop (j + 1)).foldl tPut (tPut P x) = R) := xh (by
        have := HR.out
        rw [List.drop_eq_getElem_cons hjl, List.foldl_cons, HX.out] at this
        exact this)
       have HV2 : Hid (∀ X : World, Below wj.heap.size wj X → X.cell? ⟨g2, j, none⟩ = some (.int .i64 x)) := xh (fun X h => by
        have := (HI.out.at_.below h).get hjl
        rw [HX.out] at this
        simpa using this)
       obtain ⟨q, HQ⟩ : ∃ q, Hid (tAt x P P.length = q) := ⟨_, xh rfl⟩
       have hq : q ≤ P.length := by rw [← HQ.out]; exact tAt_le _ _ _
       go_upto_block 4 with fail
       go_cut [7] from 50 to 102 (fun s7 wc => s7 = .int .i64 (q : Int) ∧ Hid (Below wj.heap.size wj wc))
       case first =>
        go_wp2_with fail
        go_loopw [7] (fun s7 wq => ∃ n : Nat, n ≤ P.length ∧ s7 = .int .i64 (n : Int) ∧ Hid (tAt x P n = q) ∧ Hid (Below wj.heap.size wj wq)) (fun s7 _ => (intOf s7).toNat)
        case atStart => exact ⟨P.length, Nat.le_refl _, rfl, HQ, xh (Below.refl _ _)⟩
        case round =>
         obtain ⟨n, hn, rfl, HN, HBQ⟩ := hrel
         have HBQD := xh (Below.drew HBQ.out)
         cases n with
         | zero =>
          have HQ0 : Hid (q = 0) := xh (by rw [← HN.out]; rfl)
          go_wp2_with fail
          refine wp_region_lit sc9 (by kernel_rfl) (by kernel_rfl) (fun _ _ d _ _ h => by cases d <;> exact h) ?_
          simp only [picked, sc9, xmc, xmn, xgs, xgz, xgd]
          repeat (first | (refine yy0 (by rfl) (fun K hK => ?_); go_big_quiet_op; refine hK _ ?_; clear hK K) | (refine yy2 (by rfl) ?_; simp only [Act.put, xsa, xsz, xss]) | (simp only [xb9, xb0, xb7, xb8, xb6, xb5, xb4, xb2, xb1, xb3]))
          refine yy13 ?_
          go_wp2
          go_meet
          case rel => exact ⟨by rw [HQ0.out], HBQD⟩
         | succ n =>
          have hnP : n < P.length := by omega
          obtain ⟨g1, o1, rfl, _⟩ := HOP.out.at_.form (by omega)
          have HV1 : Hid (∀ X : World, Below wj.heap.size wj X → X.cell? ⟨g1, o1 + n, none⟩ = some (.int .i64 P[n])) := xh (fun X h => (HOP.out.at_.below h).get hnP)
          have HY : Hid (x < P[n] → tAt x P (n + 1) = tAt x P n) := xh (fun h => yy592 hnP h)
          have HNo : Hid (¬ x < P[n] → tAt x P (n + 1) = n + 1) := xh (fun h => tAt_no hnP h)
          have d1 : decide ((0 : Int) < ((n + 1 : Nat) : Int)) = true := decide_eq_true (by omega)
          have d1n : decide (0 < n + 1) = true := decide_eq_true (by omega)
          have d1c : decide ((0 : Int) < (n : Int) + 1) = true := decide_eq_true (by omega)
          have hnJ : ((n + 1 : Nat) : Int) - 1 = (n : Int) := by omega
          have hnK : (n : Int) < (P.length : Int) := by omega
          have hn0 : (0 : Int) ≤ (n : Int) := by omega
          generalize P[n] = pn at HV1 HY HNo
          by_cases hx : x < pn
          ·have HN2 : Hid (tAt x P n = q) := xh (by rw [← HY.out hx]; exact HN.out)
           have d2 : decide (x < pn) = true := decide_eq_true hx
           clear HY HNo HN hx
           go_wp2_with fail
           refine wp_region_lit sc9 (by kernel_rfl) (by kernel_rfl) (fun _ _ d _ _ h => by cases d <;> exact h) ?_
           simp only [picked, sc9, xmc, xmn, xgs, xgz, xgd]
           have q0 := fun e : Ext wr.drew => HV1.out e.val (HBQD.out.trans (e.property.mono HBQD.out.size))
           have q1 := fun e : Ext wr.drew => HV2.out e.val (HBQD.out.trans (e.property.mono HBQD.out.size))
           repeat (first | (refine yy0 (by rfl) (fun K hK => ?_); go_big_quiet_op; refine hK _ ?_; clear hK K) | (refine yy2 (by rfl) ?_; simp only [Act.put, xsa, xsz, xss]) | (simp only [d1, d1n, d1c, d2, xb9, xb0, xb7, xb8, xb6, xb5, xb4, xb2, xb1, xb3]))
           refine yy13 ?_
           go_wp2
           go_roundw
           case rel => exact ⟨n, by omega, by go_num, HN2, HBQD⟩
           case measure => simp [intOf]
          ·have HN2 : Hid (n + 1 = q) := xh (by rw [← HNo.out hx]; exact HN.out)
           have d2 : decide (x < pn) = false := decide_eq_false hx
           clear HY HNo HN hx
           go_wp2_with fail
           refine wp_region_lit sc9 (by kernel_rfl) (by kernel_rfl) (fun _ _ d _ _ h => by cases d <;> exact h) ?_
           simp only [picked, sc9, xmc, xmn, xgs, xgz, xgd]
           have q0 := fun e : Ext wr.drew => HV1.out e.val (HBQD.out.trans (e.property.mono HBQD.out.size))
           have q1 := fun e : Ext wr.drew => HV2.out e.val (HBQD.out.trans (e.property.mono HBQD.out.size))
           repeat (first | (refine yy0 (by rfl) (fun K hK => ?_); go_big_quiet_op; refine hK _ ?_; clear hK K) | (refine yy2 (by rfl) ?_; simp only [Act.put, xsa, xsz, xss]) | (simp only [d1, d1n, d1c, d2, xb9, xb0, xb7, xb8, xb6, xb5, xb4, xb2, xb1, xb3]))
           refine yy13 ?_
           go_wp2
           go_meet
           case rel => exact ⟨by rw [← HN2.out], HBQD⟩
       case rest =>
        obtain ⟨rfl, HBC⟩ := hcut
        obtain ⟨wy, hwy⟩ : ∃ y, y = wc := ⟨wc, rfl⟩
        subst hwy
        obtain ⟨eb, HEB⟩ : ∃ eb, Hid (((0 < q ∧ P[q - 1]? = some x) → eb = true) ∧ (¬ (0 < q ∧ P[q - 1]? = some x) → eb = false)) := by
         by_cases h : 0 < q ∧ P[q - 1]? = some x
         ·exact ⟨true, xh ⟨fun _ => rfl, fun g => absurd h g⟩⟩
         ·exact ⟨false, xh ⟨fun g => absurd g h, fun _ => rfl⟩⟩
        go_upto_region 14 with fail
        have HBCD := xh (Below.drew HBC.out)
        go_cut [87] from 50 to 102 (fun s87 wc => s87 = .bool eb ∧ wc = wy.drew)
        case first =>
         cases hq0 : q with
         | zero =>
          have HF := xh (HEB.out.2 (fun h => by omega))
          subst hq0
          refine wp_region_lit sc9 (by kernel_rfl) (by kernel_rfl) (fun _ _ d _ _ h => by cases d <;> exact h) ?_
          simp only [picked, sc9, xmc, xmn, xgs, xgz, xgd]
          repeat (first | (refine yy0 (by rfl) (fun K hK => ?_); go_big_quiet_op; refine hK _ ?_; clear hK K) | (refine yy2 (by rfl) ?_; simp only [Act.put, xsa, xsz, xss]) | (simp only [xb9, xb0, xb7, xb8, xb6, xb5, xb4, xb2, xb1, xb3]))
          refine yy13 ?_
          go_wp2
          go_meet
          case rel => exact ⟨by rw [HF.out], rfl⟩
         | succ n =>
          subst hq0
          have hnP : n < P.length := by omega
          obtain ⟨g1, o1, rfl, _⟩ := HOP.out.at_.form (by omega)
          have HV1 : Hid (∀ X : World, Below wj.heap.size wj X → X.cell? ⟨g1, o1 + n, none⟩ = some (.int .i64 P[n])) := xh (fun X h => (HOP.out.at_.below h).get hnP)
          have hgn : P[n + 1 - 1]? = some P[n] := List.getElem?_eq_getElem hnP
          have d1 : decide ((0 : Int) < ((n + 1 : Nat) : Int)) = true := decide_eq_true (by omega)
          have d1n : decide (0 < n + 1) = true := decide_eq_true (by omega)
          have d1c : decide ((0 : Int) < (n : Int) + 1) = true := decide_eq_true (by omega)
          have hnJ : ((n + 1 : Nat) : Int) - 1 = (n : Int) := by omega
          have hnK : (n : Int) < (P.length : Int) := by omega
          have hn0 : (0 : Int) ≤ (n : Int) := by omega
          rw [hgn] at HEB
          clear hgn
          generalize P[n] = pn at HV1 HEB
          by_cases hx : pn = x
          ·have HF := xh (HEB.out.1 ⟨by omega, by rw [hx]⟩)
           have d2 : (pn == x) = true := by rw [hx]; simp
           clear hx HEB
           refine wp_region_lit sc9 (by kernel_rfl) (by kernel_rfl) (fun _ _ d _ _ h => by cases d <;> exact h) ?_
           simp only [picked, sc9, xmc, xmn, xgs, xgz, xgd]
           have q0 := fun e : Ext wy.drew => HV1.out e.val (HBCD.out.trans (e.property.mono HBCD.out.size))
           have q1 := fun e : Ext wy.drew => HV2.out e.val (HBCD.out.trans (e.property.mono HBCD.out.size))
           repeat (first | (refine yy0 (by rfl) (fun K hK => ?_); go_big_quiet_op; refine hK _ ?_; clear hK K) | (refine yy2 (by rfl) ?_; simp only [Act.put, xsa, xsz, xss]) | (simp only [d1, d1n, d1c, d2, xb9, xb0, xb7, xb8, xb6, xb5, xb4, xb2, xb1, xb3]))
           refine yy13 ?_
           go_wp2
           go_meet
           case rel => exact ⟨by rw [HF.out], rfl⟩
          ·have HF := xh (HEB.out.2 (fun h => hx (by have := h.2; injection this)))
           have d2 : (pn == x) = false := xn hx
           clear hx HEB
           refine wp_region_lit sc9 (by kernel_rfl) (by kernel_rfl) (fun _ _ d _ _ h => by cases d <;> exact h) ?_
           simp only [picked, sc9, xmc, xmn, xgs, xgz, xgd]
           have q0 := fun e : Ext wy.drew => HV1.out e.val (HBCD.out.trans (e.property.mono HBCD.out.size))
           have q1 := fun e : Ext wy.drew => HV2.out e.val (HBCD.out.trans (e.property.mono HBCD.out.size))
           repeat (first | (refine yy0 (by rfl) (fun K hK => ?_); go_big_quiet_op; refine hK _ ?_; clear hK K) | (refine yy2 (by rfl) ?_; simp only [Act.put, xsa, xsz, xss]) | (simp only [d1, d1n, d1c, d2, xb9, xb0, xb7, xb8, xb6, xb5, xb4, xb2, xb1, xb3]))
           refine yy13 ?_
           go_wp2
           go_meet
           case rel => exact ⟨by rw [HF.out], rfl⟩
        case rest =>
         obtain ⟨rfl, rfl⟩ := hcut
         have HBJ : Hid (Below w.heap.size w wy.drew) := xh (HBL.out.trans (HBCD.out.mono HBL.out.size))
         have HOPY := xh (HOP.out.below HBCD.out)
         have HIY := xh (HI.out.below HBCD.out)
         cases eb with
         | true =>
          have HP : Hid (tPut P x = P) := xh (by
           unfold tPut
           rw [HQ.out]
           by_cases h : 0 < q ∧ P[q - 1]? = some x
           ·exact if_pos h
           ·exact absurd (HEB.out.2 h) (by simp))
          have HR2 : Hid ((ids.drop (j + 1)).foldl tPut P = R) := xh (by rw [← HP.out]; exact HR1.out)
          go_wp2
          go_roundw
          case rel => exact ⟨j + 1, P, A3, c3, by omega, rfl, by go_num, trivial, by omega, HR2, HOPY, HIY, HBJ⟩
          case measure => simp [intOf]; omega
         | false =>
          have HP : Hid (tPut P x = (P.take q ++ [x]) ++ P.drop q) := xh (by
           unfold tPut
           rw [HQ.out]
           by_cases h : 0 < q ∧ P[q - 1]? = some x
           ·exact absurd (HEB.out.1 h) (by simp)
           ·exact if_neg h)
          have HR2 : Hid ((ids.drop (j + 1)).foldl tPut ((P.take q ++ [x]) ++ P.drop q) = R) := xh (by rw [← HP.out]; exact HR1.out)
          have HPL : Hid (((P.take q ++ [x]) ++ P.drop q).length = P.length + 1) := xh (by simp; omega)
          generalize wy.drew = wx at HBJ HOPY HIY HBCD ⊢
          have hcap := HOPY.out.cap
          have cut1 : ∀ w : World, (Instr.slice 30 (.slice A3 P.length c3) none (some (.int .i64 (q : Int))) none).run Tryd.prog w = .ok (.slice (yy134 A3 c3) (P.take q).length c3) w := fun w => by
           rw [show (P.take q).length = q from by rw [List.length_take]; omega]
           exact yy316 A3 P.length c3 q (by omega) w
          have cut2 : ∀ w : World, (Instr.slice 30 (.slice A3 P.length c3) (some (.int .i64 (q : Int))) none none).run Tryd.prog w = .ok (.slice (numLow A3 q c3) (P.drop q).length (c3 - q)) w := fun w => by
           rw [show (P.drop q).length = P.length - q from by rw [List.length_drop]]
           exact yy388 A3 P.length c3 q hq w
          have HM1 : Hid (∀ v : World, NumsAt v A3 P → NumsAt v (yy134 A3 c3) (P.take q)) := xh (fun v h => h.high c3 q)
          have HM2 : Hid (∀ v : World, NumsAt v A3 P → NumsAt v (numLow A3 q c3) (P.drop q)) := xh (fun v h => h.low c3 q (by omega))
          have HLEN : Hid ((P.take q).length + (P.drop q).length ≤ 4194304) := xh (by rw [List.length_take, List.length_drop]; omega)
          generalize P.take q = m1 at HM1 cut1 HR2 HPL HLEN
          generalize P.drop q = m2 at HM2 cut2 HR2 HPL HLEN
          generalize yy134 A3 c3 = B1_ at HM1 cut1
          generalize numLow A3 q c3 = B2_ at HM2 cut2
          go_upto_region 15 with fail
          have HWR : Hid (NumsAt wx.drew A3 P) := xh (HOPY.out.at_.drew)
          have HZ : Hid (wx.drew.cell? ⟨g2, j, none⟩ = some (.int .i64 x)) := xh (HV2.out _ (Below.drew HBCD.out))
          have HBD : Hid (Below w.heap.size w wx.drew) := xh (Below.drew HBJ.out)
          have HSZ : Hid (wx.heap.size = wx.drew.heap.size) := xh rfl
          have HBX : Hid (Below wx.heap.size wx wx.drew) := xh (Below.drew (Below.refl _ _))
          refine Sched.yy694 (some wx.heap.size) nT (by kernel_rfl) (by kernel_rfl) (fun _ _ d _ _ h => by cases d <;> exact h) ?_
          simp only [nT, nT1, nT0, Sched.picked, List.getElem?_cons_succ, List.getElem?_cons_zero, Option.getD_some]
          have hsd : wx.heap.size = wx.drew.heap.size := rfl
          rw [hsd]
          generalize wx.drew = wd at HWR HBD HZ HBX HSZ ⊢
          have n0 := fun e : ExtB (some wd.heap.size) wd => (e.property.cell (World.block_lt_of_cell? _ _ HZ.out)).trans HZ.out
          repeat (first | (refine Sched.yy857 (by rfl) (fun K hK => ?_); go_big_quiet_op; refine hK _ ?_; clear hK K) | (refine Sched.yy671 (by rfl) ?_; simp only [Act.put, xsa, xsz, xss]))
          clear n0
          have HB : Hid (Below wd.heap.size wd wd) := xh (Below.refl _ _)
          refine Sched.walk_two ?_ ?_
          ·refine Sched.walk_one (by rfl) (fun K hK => ?_)
           go_simp
           have HO : Hid (OwnK ((wd).alloc (.cells #[] 3)) wd.heap.size (some ⟨wd.heap.size, 0, none⟩) 0 []) := by
            have h := OwnK.empty (B := wd.heap.size) wd HB.out.size
            rw [show (wd).heap.size = wd.heap.size from rfl] at h
            exact xh h
           refine hK _ _ ((Below.refl _ _).alloc HB.out.size _) ?_
           replace HB : Hid (Below wd.heap.size wd ((wd).alloc (.cells #[] 3))) := xh (HB.out.alloc HB.out.size _)
           clear hK K
           try simp only [Act.put, xsa, xsz, xss]
           refine Sched.walk_two ?_ ?_
           ·refine Sched.walk_one (by rfl) (fun K hK => ?_)
            refine yy25 (.tmp 88) (.tmp 91) rfl HO.out HB.out.size c3 (HM1.out _ (HWR.out.below HB.out)) (by have := HLEN.out; simp; omega) rfl rfl ?_
            intro P1 r1 y1 hown hb hlies
            refine hK _ _ hb ?_
            replace HB : Hid (Below wd.heap.size wd y1) := xh (HB.out.trans hb)
            replace HO := xh hown
            clear hK K hown hb hlies
            try simp only [Act.put, xsa, xsz, xss]
            refine Sched.walk_one (by rfl) (fun K hK => ?_)
            go_simp
            have HL : Hid (NumsAt ((y1).alloc (.cells #[.int .i64 x] 3)) (some ⟨y1.heap.size, 0, none⟩) [x]) := xh (yy277 y1 x _ rfl)
            replace HO := xh (HO.out.alloc (.cells #[.int .i64 x] 3))
            refine hK _ _ ((Below.refl _ _).alloc HB.out.size _) ?_
            replace HB : Hid (Below wd.heap.size wd ((y1).alloc (.cells #[.int .i64 x] 3))) := xh (HB.out.alloc HB.out.size _)
            clear hK K
            try simp only [Act.put, xsa, xsz, xss]
            refine Sched.walk_one (by rfl) (fun K hK => ?_)
            refine yy25 (.tmp 92) (.tmp 97) rfl HO.out HB.out.size 1 HL.out (by have := HLEN.out; simp; omega) rfl rfl ?_
            intro P2 r2 y2 hown hb hlies
            refine hK _ _ hb ?_
            replace HB : Hid (Below wd.heap.size wd y2) := xh (HB.out.trans hb)
            replace HO := xh hown
            clear hK K hown hb hlies
            try simp only [Act.put, xsa, xsz, xss]
            refine Sched.walk_one (by rfl) (fun K hK => ?_)
            refine yy25 (.tmp 98) (.tmp 101) rfl HO.out HB.out.size (c3 - q) (HM2.out _ (HWR.out.below HB.out)) (by have := HLEN.out; simp; omega) rfl rfl ?_
            intro P3 r3 y3 hown hb hlies
            refine hK _ _ hb ?_
            replace HB : Hid (Below wd.heap.size wd y3) := xh (HB.out.trans hb)
            replace HO := xh hown
            clear hK K hown hb hlies
            try simp only [Act.put, xsa, xsz, xss]
            repeat (first | (refine Sched.yy857 (by rfl) (fun K hK => ?_); go_big_quiet_op; refine hK _ ?_; clear hK K) | (refine Sched.yy671 (by rfl) ?_; simp only [Act.put, xsa, xsz, xss]))
            refine Sched.walk_done ?_
            have HBXX := xh (HBX.out.trans (HB.out.mono HBX.out.size))
            have HI4 := xh (HIY.out.below HBXX.out)
            have HB4 := xh (HBJ.out.trans (HBXX.out.mono HBJ.out.size))
            have HO4 := xh (yy33 HO.out HBD.out.size)
            have hpl := HPL.out
            go_wp2_with fail
            go_roundw
            case rel => exact ⟨j + 1, (m1 ++ [x]) ++ m2, _, _, by omega, rfl, by go_num, trivial, by omega, HR2, HO4, HI4, HB4⟩
            case measure => simp [intOf]; omega
           ·refine Sched.walk_one (by rfl) (fun K hK => ?_)
            go_simp
            have HL : Hid (NumsAt ((((wd).alloc (.cells #[] 3))).alloc (.cells #[.int .i64 x] 3)) (some ⟨(wd.heap.size + 1), 0, none⟩) [x]) := xh (yy277 ((wd).alloc (.cells #[] 3)) x _ (by simp))
            replace HO := xh (HO.out.alloc (.cells #[.int .i64 x] 3))
            refine hK _ _ ((Below.refl _ _).alloc HB.out.size _) ?_
            replace HB : Hid (Below wd.heap.size wd ((((wd).alloc (.cells #[] 3))).alloc (.cells #[.int .i64 x] 3))) := xh (HB.out.alloc HB.out.size _)
            clear hK K
            try simp only [Act.put, xsa, xsz, xss]
            refine Sched.walk_one (by rfl) (fun K hK => ?_)
            refine yy25 (.tmp 88) (.tmp 91) rfl HO.out HB.out.size c3 (HM1.out _ (HWR.out.below HB.out)) (by have := HLEN.out; simp; omega) rfl rfl ?_
            intro P1 r1 y1 hown hb hlies
            replace HL := xh (hlies _ _ (by simp <;> omega) (fun b e => by injection e with e; subst e; simp) HL.out)
            refine hK _ _ hb ?_
            replace HB : Hid (Below wd.heap.size wd y1) := xh (HB.out.trans hb)
            replace HO := xh hown
            clear hK K hown hb hlies
            try simp only [Act.put, xsa, xsz, xss]
            refine Sched.walk_one (by rfl) (fun K hK => ?_)
            refine yy25 (.tmp 92) (.tmp 97) rfl HO.out HB.out.size 1 HL.out (by have := HLEN.out; simp; omega) rfl rfl ?_
            intro P2 r2 y2 hown hb hlies
            refine hK _ _ hb ?_
            replace HB : Hid (Below wd.heap.size wd y2) := xh (HB.out.trans hb)
            replace HO := xh hown
            clear hK K hown hb hlies
            try simp only [Act.put, xsa, xsz, xss]
            refine Sched.walk_one (by rfl) (fun K hK => ?_)
            refine yy25 (.tmp 98) (.tmp 101) rfl HO.out HB.out.size (c3 - q) (HM2.out _ (HWR.out.below HB.out)) (by have := HLEN.out; simp; omega) rfl rfl ?_
            intro P3 r3 y3 hown hb hlies
            refine hK _ _ hb ?_
            replace HB : Hid (Below wd.heap.size wd y3) := xh (HB.out.trans hb)
            replace HO := xh hown
            clear hK K hown hb hlies
            try simp only [Act.put, xsa, xsz, xss]
            repeat (first | (refine Sched.yy857 (by rfl) (fun K hK => ?_); go_big_quiet_op; refine hK _ ?_; clear hK K) | (refine Sched.yy671 (by rfl) ?_; simp only [Act.put, xsa, xsz, xss]))
            refine Sched.walk_done ?_
            have HBXX := xh (HBX.out.trans (HB.out.mono HBX.out.size))
            have HI4 := xh (HIY.out.below HBXX.out)
            have HB4 := xh (HBJ.out.trans (HBXX.out.mono HBJ.out.size))
            have HO4 := xh (yy33 HO.out HBD.out.size)
            have hpl := HPL.out
            go_wp2_with fail
            go_roundw
            case rel => exact ⟨j + 1, (m1 ++ [x]) ++ m2, _, _, by omega, rfl, by go_num, trivial, by omega, HR2, HO4, HI4, HB4⟩
            case measure => simp [intOf]; omega
          ·refine Sched.walk_one (by rfl) (fun K hK => ?_)
           go_simp
           have HL : Hid (NumsAt ((wd).alloc (.cells #[.int .i64 x] 3)) (some ⟨wd.heap.size, 0, none⟩) [x]) := xh (yy277 wd x _ rfl)
           refine hK _ _ ((Below.refl _ _).alloc HB.out.size _) ?_
           replace HB : Hid (Below wd.heap.size wd ((wd).alloc (.cells #[.int .i64 x] 3))) := xh (HB.out.alloc HB.out.size _)
           clear hK K
           try simp only [Act.put, xsa, xsz, xss]
           refine Sched.walk_one (by rfl) (fun K hK => ?_)
           go_simp
           have HO : Hid (OwnK ((((wd).alloc (.cells #[.int .i64 x] 3))).alloc (.cells #[] 3)) wd.heap.size (some ⟨(wd.heap.size + 1), 0, none⟩) 0 []) := by
            have h := OwnK.empty (B := wd.heap.size) ((wd).alloc (.cells #[.int .i64 x] 3)) HB.out.size
            rw [show (((wd).alloc (.cells #[.int .i64 x] 3))).heap.size = (wd.heap.size + 1) from (by simp)] at h
            exact xh h
           replace HL := xh (HL.out.below ((Below.refl _ _).alloc (Nat.le_refl _) (.cells #[] 3)))
           refine hK _ _ ((Below.refl _ _).alloc HB.out.size _) ?_
           replace HB : Hid (Below wd.heap.size wd ((((wd).alloc (.cells #[.int .i64 x] 3))).alloc (.cells #[] 3))) := xh (HB.out.alloc HB.out.size _)
           clear hK K
           try simp only [Act.put, xsa, xsz, xss]
           refine Sched.walk_one (by rfl) (fun K hK => ?_)
           refine yy25 (.tmp 88) (.tmp 91) rfl HO.out HB.out.size c3 (HM1.out _ (HWR.out.below HB.out)) (by have := HLEN.out; simp; omega) rfl rfl ?_
           intro P1 r1 y1 hown hb hlies
           replace HL := xh (hlies _ _ (by simp <;> omega) (fun b e => by injection e with e; subst e; simp) HL.out)
           refine hK _ _ hb ?_
           replace HB : Hid (Below wd.heap.size wd y1) := xh (HB.out.trans hb)
           replace HO := xh hown
           clear hK K hown hb hlies
           try simp only [Act.put, xsa, xsz, xss]
           refine Sched.walk_one (by rfl) (fun K hK => ?_)
           refine yy25 (.tmp 92) (.tmp 97) rfl HO.out HB.out.size 1 HL.out (by have := HLEN.out; simp; omega) rfl rfl ?_
           intro P2 r2 y2 hown hb hlies
           refine hK _ _ hb ?_
           replace HB : Hid (Below wd.heap.size wd y2) := xh (HB.out.trans hb)
           replace HO := xh hown
           clear hK K hown hb hlies
           try simp only [Act.put, xsa, xsz, xss]
           refine Sched.walk_one (by rfl) (fun K hK => ?_)
           refine yy25 (.tmp 98) (.tmp 101) rfl HO.out HB.out.size (c3 - q) (HM2.out _ (HWR.out.below HB.out)) (by have := HLEN.out; simp; omega) rfl rfl ?_
           intro P3 r3 y3 hown hb hlies
           refine hK _ _ hb ?_
           replace HB : Hid (Below wd.heap.size wd y3) := xh (HB.out.trans hb)
           replace HO := xh hown
           clear hK K hown hb hlies
           try simp only [Act.put, xsa, xsz, xss]
           repeat (first | (refine Sched.yy857 (by rfl) (fun K hK => ?_); go_big_quiet_op; refine hK _ ?_; clear hK K) | (refine Sched.yy671 (by rfl) ?_; simp only [Act.put, xsa, xsz, xss]))
           refine Sched.walk_done ?_
           have HBXX := xh (HBX.out.trans (HB.out.mono HBX.out.size))
           have HI4 := xh (HIY.out.below HBXX.out)
           have HB4 := xh (HBJ.out.trans (HBXX.out.mono HBJ.out.size))
           have HO4 := xh (yy33 HO.out HBD.out.size)
           have hpl := HPL.out
           go_wp2_with fail
           go_roundw
           case rel => exact ⟨j + 1, (m1 ++ [x]) ++ m2, _, _, by omega, rfl, by go_num, trivial, by omega, HR2, HO4, HI4, HB4⟩
           case measure => simp [intOf]; omega
      ·obtain rfl : j = 1 := by omega
       have HRR : Hid (P = R) := xh (by have := HR.out; rw [List.drop_of_length_le (by rw [HIL.out]; omega)] at this; exact this)
       obtain ⟨w7, hw7⟩ : ∃ y, y = wj := ⟨wj, rfl⟩
       subst hw7
       have hkl := hPl
       go_wp2_with fail
       go_roundw
       case rel => exact ⟨k + 1, A3, c3, by omega, by rw [HT.out, ← HRR.out], by go_num, trivial, trivial, trivial, by rw [HT.out, ← HRR.out]; exact HOP, HBL⟩
       case measure => simp [intOf]; omega
    | true =>
     have HID : Hid (aIds ⟨ak, ai, ap, an, ad, aA, aC, ao⟩ = [ai, ap]) := xh (by
      unfold aIds
      by_cases h : (ak = 1 ∨ ak = 3) ∧ ap ≠ 0
      ·rw [if_pos h]
      ·exact absurd (HBB.out.2 h) (by simp))
     rw [HID.out] at HT3
     have hso := HBO.out.size
     have HOO := HO0
     clear HO
     go_upto_region 7 with fail
     go_cut [5] from 8 to 102 (fun s5 wc2 => ∃ g2 o2 c5, s5 = .slice (some ⟨g2, o2, none⟩) 2 c5 ∧ Below wo.heap.size wo wc2 ∧ OwnK wc2 wo.heap.size (some ⟨g2, o2, none⟩) c5 [ai, ap])
     case first =>
      go_wp2_with (at_builtin
                   refine yy303 rfl (.tmp 42) (.tmp 48) rfl (B := wo.heap.size) (out := [ai]) (m := [ap]) (HI0.out.alloc (.cells (intCells ap).toArray 3)) (by simp; omega) 1 (yy277 wc ap _ rfl) (by simp) rfl rfl ?_
                   intro A5 c5 w4 hown hbel
                   have HB5 := xh ((HBO.out.alloc HBO.out.size (.cells (intCells ap).toArray 3)).trans hbel)
                   have HO5 := xh hown
                   clear hown hbel)
      go_meet
      case rel =>
       obtain ⟨g2, o2, rfl, _⟩ := HO5.out.at_.form (by simp)
       exact ⟨g2, o2, c5, rfl, HB5.out, HO5.out⟩
     case rest =>
      obtain ⟨g2, o2, c5, rfl, hb5, hi5⟩ := hcut
      obtain ⟨wv, hwv⟩ : ∃ y, y = wc := ⟨wc, rfl⟩
      subst hwv
      have HI5 := xh (yy33 hi5 HBEL.out.size)
      have HO := xh (HO0.out.below hb5)
      replace HBW : Hid (Below w.heap.size w wv) := xh (HBEL.out.trans (hb5.mono HBEL.out.size))
      clear hb5 hi5
      obtain ⟨ids, HIDS⟩ : ∃ ids, Hid ([ai, ap] = ids) := ⟨_, xh rfl⟩
      have HIL : Hid (ids.length = 2) := xh (by rw [← HIDS.out]; rfl)
      have HT2 : Hid (ids.foldl tPut acc = R) := xh (by rw [← HIDS.out]; exact HT3.out)
      have HI : Hid (OwnK wv w.heap.size (some ⟨g2, o2, none⟩) c5 ids) := xh (by rw [← HIDS.out]; exact HI5.out)
      clear HID HIDS HT3 HI5 HI0 HOO
      go_wp2_with fail
      go_loopw [3, 6, 7] (fun s3 s6 s7 wr => ∃ (j : Nat) (P : List Int) (A3 : Option Addr) (c3 : Nat), j ≤ 2 ∧ s3 = .slice A3 P.length c3 ∧ s6 = .int .i64 (j : Int) ∧ s7 = s7 ∧ P.length ≤ acc.length + j ∧ Hid ((ids.drop j).foldl tPut P = R) ∧ Hid (OwnK wr w.heap.size A3 c3 P) ∧ Hid (OwnK wr w.heap.size (some ⟨g2, o2, none⟩) c5 ids) ∧ Hid (Below w.heap.size w wr)) (fun _ s6 _ _ => 2 - (intOf s6).toNat)
      case atStart => exact ⟨0, acc, A1, c1, Nat.zero_le _, rfl, rfl, rfl, Nat.le_refl _, xh (by rw [List.drop_zero]; exact HT2.out), HO, HI, HBW⟩
      case round =>
       clear HO HI HBW
       obtain ⟨j, P, A3, c3, hj, rfl, rfl, _, hPl, HR, HOP, HI, HBL⟩ := hrel
       obtain ⟨wj, hwj⟩ : ∃ y, y = wr := ⟨wr, rfl⟩
       subst hwj
       by_cases hlt2 : j < 2
       ·have hjl : j < ids.length := by rw [HIL.out]; omega
        have hjI : (j : Int) < 2 := by omega
        obtain ⟨x, HX⟩ : ∃ x, Hid (ids[j] = x) := ⟨_, xh rfl⟩
        have HR1 : Hid ((ids.drop (j + 1)).foldl tPut (tPut P x) = R) := xh (by
         have := HR.out
         rw [List.drop_eq_getElem_cons hjl, List.foldl_cons, HX.out] at this
         exact this)
        have HV2 : Hid (∀ X : World, Below wj.heap.size wj X → X.cell? ⟨g2, o2 + j, none⟩ = some (.int .i64 x)) := xh (fun X h => by
         have := (HI.out.at_.below h).get hjl
         rw [HX.out] at this
         simpa using this)
        obtain ⟨q, HQ⟩ : ∃ q, Hid (tAt x P P.length = q) := ⟨_, xh rfl⟩
        have hq : q ≤ P.length := by rw [← HQ.out]; exact tAt_le _ _ _
        go_upto_block 4 with fail
        go_cut [7] from 50 to 102 (fun s7 wc => s7 = .int .i64 (q : Int) ∧ Hid (Below wj.heap.size wj wc))
        case first =>
         go_wp2_with fail
         go_loopw [7] (fun s7 wq => ∃ n : Nat, n ≤ P.length ∧ s7 = .int .i64 (n : Int) ∧ Hid (tAt x P n = q) ∧ Hid (Below wj.heap.size wj wq)) (fun s7 _ => (intOf s7).toNat)
         case atStart => exact ⟨P.length, Nat.le_refl _, rfl, HQ, xh (Below.refl _ _)⟩
         case round =>
          obtain ⟨n, hn, rfl, HN, HBQ⟩ := hrel
          have HBQD := xh (Below.drew HBQ.out)
          cases n with
          | zero =>
           have HQ0 : Hid (q = 0) := xh (by rw [← HN.out]; rfl)
           go_wp2_with fail
           refine wp_region_lit sc9 (by kernel_rfl) (by kernel_rfl) (fun _ _ d _ _ h => by cases d <;> exact h) ?_
           simp only [picked, sc9, xmc, xmn, xgs, xgz, xgd]
           repeat (first | (refine yy0 (by rfl) (fun K hK => ?_); go_big_quiet_op; refine hK _ ?_; clear hK K) | (refine yy2 (by rfl) ?_; simp only [Act.put, xsa, xsz, xss]) | (simp only [xb9, xb0, xb7, xb8, xb6, xb5, xb4, xb2, xb1, xb3]))
           refine yy13 ?_
           go_wp2
           go_meet
           case rel => exact ⟨by rw [HQ0.out], HBQD⟩
          | succ n =>
           have hnP : n < P.length := by omega
           obtain ⟨g1, o1, rfl, _⟩ := HOP.out.at_.form (by omega)
           have HV1 : Hid (∀ X : World, Below wj.heap.size wj X → X.cell? ⟨g1, o1 + n, none⟩ = some (.int .i64 P[n])) := xh (fun X h => (HOP.out.at_.below h).get hnP)
           have HY : Hid (x < P[n] → tAt x P (n + 1) = tAt x P n) := xh (fun h => yy592 hnP h)
           have HNo : Hid (¬ x < P[n] → tAt x P (n + 1) = n + 1) := xh (fun h => tAt_no hnP h)
           have d1 : decide ((0 : Int) < ((n + 1 : Nat) : Int)) = true := decide_eq_true (by omega)
           have d1n : decide (0 < n + 1) = true := decide_eq_true (by omega)
           have d1c : decide ((0 : Int) < (n : Int) + 1) = true := decide_eq_true (by omega)
           have hnJ : ((n + 1 : Nat) : Int) - 1 = (n : Int) := by omega
           have hnK : (n : Int) < (P.length : Int) := by omega
           have hn0 : (0 : Int) ≤ (n : Int) := by omega
           generalize P[n] = pn at HV1 HY HNo
           by_cases hx : x < pn
           ·have HN2 : Hid (tAt x P n = q) := xh (by rw [← HY.out hx]; exact HN.out)
            have d2 : decide (x < pn) = true := decide_eq_true hx
            clear HY HNo HN hx
            go_wp2_with fail
            refine wp_region_lit sc9 (by kernel_rfl) (by kernel_rfl) (fun _ _ d _ _ h => by cases d <;> exact h) ?_
            simp only [picked, sc9, xmc, xmn, xgs, xgz, xgd]
            have q0 := fun e : Ext wr.drew => HV1.out e.val (HBQD.out.trans (e.property.mono HBQD.out.size))
            have q1 := fun e : Ext wr.drew => HV2.out e.val (HBQD.out.trans (e.property.mono HBQD.out.size))
            repeat (first | (refine yy0 (by rfl) (fun K hK => ?_); go_big_quiet_op; refine hK _ ?_; clear hK K) | (refine yy2 (by rfl) ?_; simp only [Act.put, xsa, xsz, xss]) | (simp only [d1, d1n, d1c, d2, xb9, xb0, xb7, xb8, xb6, xb5, xb4, xb2, xb1, xb3]))
            refine yy13 ?_
            go_wp2
            go_roundw
            case rel => exact ⟨n, by omega, by go_num, HN2, HBQD⟩
            case measure => simp [intOf]
           ·have HN2 : Hid (n + 1 = q) := xh (by rw [← HNo.out hx]; exact HN.out)
            have d2 : decide (x < pn) = false := decide_eq_false hx
            clear HY HNo HN hx
            go_wp2_with fail
            refine wp_region_lit sc9 (by kernel_rfl) (by kernel_rfl) (fun _ _ d _ _ h => by cases d <;> exact h) ?_
            simp only [picked, sc9, xmc, xmn, xgs, xgz, xgd]
            have q0 := fun e : Ext wr.drew => HV1.out e.val (HBQD.out.trans (e.property.mono HBQD.out.size))
            have q1 := fun e : Ext wr.drew => HV2.out e.val (HBQD.out.trans (e.property.mono HBQD.out.size))
            repeat (first | (refine yy0 (by rfl) (fun K hK => ?_); go_big_quiet_op; refine hK _ ?_; clear hK K) | (refine yy2 (by rfl) ?_; simp only [Act.put, xsa, xsz, xss]) | (simp only [d1, d1n, d1c, d2, xb9, xb0, xb7, xb8, xb6, xb5, xb4, xb2, xb1, xb3]))
            refine yy13 ?_
            go_wp2
            go_meet
            case rel => exact ⟨by rw [← HN2.out], HBQD⟩
        case rest =>
         obtain ⟨rfl, HBC⟩ := hcut
         obtain ⟨wy, hwy⟩ : ∃ y, y = wc := ⟨wc, rfl⟩
         subst hwy
         obtain ⟨eb, HEB⟩ : ∃ eb, Hid (((0 < q ∧ P[q - 1]? = some x) → eb = true) ∧ (¬ (0 < q ∧ P[q - 1]? = some x) → eb = false)) := by
          by_cases h : 0 < q ∧ P[q - 1]? = some x
          ·exact ⟨true, xh ⟨fun _ => rfl, fun g => absurd h g⟩⟩
          ·exact ⟨false, xh ⟨fun g => absurd g h, fun _ => rfl⟩⟩
         go_upto_region 14 with fail
         have HBCD := xh (Below.drew HBC.out)
         go_cut [87] from 50 to 102 (fun s87 wc => s87 = .bool eb ∧ wc = wy.drew)
         case first =>
          cases hq0 : q with
          | zero =>
           have HF := xh (HEB.out.2 (fun h => by omega))
           subst hq0
           refine wp_region_lit sc9 (by kernel_rfl) (by kernel_rfl) (fun _ _ d _ _ h => by cases d <;> exact h) ?_
           simp only [picked, sc9, xmc, xmn, xgs, xgz, xgd]
           repeat (first | (refine yy0 (by rfl) (fun K hK => ?_); go_big_quiet_op; refine hK _ ?_; clear hK K) | (refine yy2 (by rfl) ?_; simp only [Act.put, xsa, xsz, xss]) | (simp only [xb9, xb0, xb7, xb8, xb6, xb5, xb4, xb2, xb1, xb3]))
           refine yy13 ?_
           go_wp2
           go_meet
           case rel => exact ⟨by rw [HF.out], rfl⟩
          | succ n =>
           subst hq0
           have hnP : n < P.length := by omega
           obtain ⟨g1, o1, rfl, _⟩ := HOP.out.at_.form (by omega)
           have HV1 : Hid (∀ X : World, Below wj.heap.size wj X → X.cell? ⟨g1, o1 + n, none⟩ = some (.int .i64 P[n])) := xh (fun X h => (HOP.out.at_.below h).get hnP)
           have hgn : P[n + 1 - 1]? = some P[n] := List.getElem?_eq_getElem hnP
           have d1 : decide ((0 : Int) < ((n + 1 : Nat) : Int)) = true := decide_eq_true (by omega)
           have d1n : decide (0 < n + 1) = true := decide_eq_true (by omega)
           have d1c : decide ((0 : Int) < (n : Int) + 1) = true := decide_eq_true (by omega)
           have hnJ : ((n + 1 : Nat) : Int) - 1 = (n : Int) := by omega
           have hnK : (n : Int) < (P.length : Int) := by omega
           have hn0 : (0 : Int) ≤ (n : Int) := by omega
           rw [hgn] at HEB
           clear hgn
           generalize P[n] = pn at HV1 HEB
           by_cases hx : pn = x
           ·have HF := xh (HEB.out.1 ⟨by omega, by rw [hx]⟩)
            have d2 : (pn == x) = true := by rw [hx]; simp
            clear hx HEB
            refine wp_region_lit sc9 (by kernel_rfl) (by kernel_rfl) (fun _ _ d _ _ h => by cases d <;> exact h) ?_
            simp only [picked, sc9, xmc, xmn, xgs, xgz, xgd]
            have q0 := fun e : Ext wy.drew => HV1.out e.val (HBCD.out.trans (e.property.mono HBCD.out.size))
            have q1 := fun e : Ext wy.drew => HV2.out e.val (HBCD.out.trans (e.property.mono HBCD.out.size))
            repeat (first | (refine yy0 (by rfl) (fun K hK => ?_); go_big_quiet_op; refine hK _ ?_; clear hK K) | (refine yy2 (by rfl) ?_; simp only [Act.put, xsa, xsz, xss]) | (simp only [d1, d1n, d1c, d2, xb9, xb0, xb7, xb8, xb6, xb5, xb4, xb2, xb1, xb3]))
            refine yy13 ?_
            go_wp2
            go_meet
            case rel => exact ⟨by rw [HF.out], rfl⟩
           ·have HF := xh (HEB.out.2 (fun h => hx (by have := h.2; injection this)))
            have d2 : (pn == x) = false := xn hx
            clear hx HEB
            refine wp_region_lit sc9 (by kernel_rfl) (by kernel_rfl) (fun _ _ d _ _ h => by cases d <;> exact h) ?_
            simp only [picked, sc9, xmc, xmn, xgs, xgz, xgd]
            have q0 := fun e : Ext wy.drew => HV1.out e.val (HBCD.out.trans (e.property.mono HBCD.out.size))
            have q1 := fun e : Ext wy.drew => HV2.out e.val (HBCD.out.trans (e.property.mono HBCD.out.size))
            repeat (first | (refine yy0 (by rfl) (fun K hK => ?_); go_big_quiet_op; refine hK _ ?_; clear hK K) | (refine yy2 (by rfl) ?_; simp only [Act.put, xsa, xsz, xss]) | (simp only [d1, d1n, d1c, d2, xb9, xb0, xb7, xb8, xb6, xb5, xb4, xb2, xb1, xb3]))
            refine yy13 ?_
            go_wp2
            go_meet
            case rel => exact ⟨by rw [HF.out], rfl⟩
         case rest =>
          obtain ⟨rfl, rfl⟩ := hcut
          have HBJ : Hid (Below w.heap.size w wy.drew) := xh (HBL.out.trans (HBCD.out.mono HBL.out.size))
          have HOPY := xh (HOP.out.below HBCD.out)
          have HIY := xh (HI.out.below HBCD.out)
          cases eb with
          | true =>
           have HP : Hid (tPut P x = P) := xh (by
            unfold tPut
            rw [HQ.out]
            by_cases h : 0 < q ∧ P[q - 1]? = some x
            ·exact if_pos h
            ·exact absurd (HEB.out.2 h) (by simp))
           have HR2 : Hid ((ids.drop (j + 1)).foldl tPut P = R) := xh (by rw [← HP.out]; exact HR1.out)
           go_wp2
           go_roundw
           case rel => exact ⟨j + 1, P, A3, c3, by omega, rfl, by go_num, trivial, by omega, HR2, HOPY, HIY, HBJ⟩
           case measure => simp [intOf]; omega
          | false =>
           have HP : Hid (tPut P x = (P.take q ++ [x]) ++ P.drop q) := xh (by
            unfold tPut
            rw [HQ.out]
            by_cases h : 0 < q ∧ P[q - 1]? = some x
            ·exact absurd (HEB.out.1 h) (by simp)
            ·exact if_neg h)
           have HR2 : Hid ((ids.drop (j + 1)).foldl tPut ((P.take q ++ [x]) ++ P.drop q) = R) := xh (by rw [← HP.out]; exact HR1.out)
           have HPL : Hid (((P.take q ++ [x]) ++ P.drop q).length = P.length + 1) := xh (by simp; omega)
           generalize wy.drew = wx at HBJ HOPY HIY HBCD ⊢
           have hcap := HOPY.out.cap
           have cut1 : ∀ w : World, (Instr.slice 30 (.slice A3 P.length c3) none (some (.int .i64 (q : Int))) none).run Tryd.prog w = .ok (.slice (yy134 A3 c3) (P.take q).length c3) w := fun w => by
            rw [show (P.take q).length = q from by rw [List.length_take]; omega]
            exact yy316 A3 P.length c3 q (by omega) w
           have cut2 : ∀ w : World, (Instr.slice 30 (.slice A3 P.length c3) (some (.int .i64 (q : Int))) none none).run Tryd.prog w = .ok (.slice (numLow A3 q c3) (P.drop q).length (c3 - q)) w := fun w => by
            rw [show (P.drop q).length = P.length - q from by rw [List.length_drop]]
            exact yy388 A3 P.length c3 q hq w
           have HM1 : Hid (∀ v : World, NumsAt v A3 P → NumsAt v (yy134 A3 c3) (P.take q)) := xh (fun v h => h.high c3 q)
           have HM2 : Hid (∀ v : World, NumsAt v A3 P → NumsAt v (numLow A3 q c3) (P.drop q)) := xh (fun v h => h.low c3 q (by omega))
           have HLEN : Hid ((P.take q).length + (P.drop q).length ≤ 4194304) := xh (by rw [List.length_take, List.length_drop]; omega)
           generalize P.take q = m1 at HM1 cut1 HR2 HPL HLEN
           generalize P.drop q = m2 at HM2 cut2 HR2 HPL HLEN
           generalize yy134 A3 c3 = B1_ at HM1 cut1
           generalize numLow A3 q c3 = B2_ at HM2 cut2
           go_upto_region 15 with fail
           have HWR : Hid (NumsAt wx.drew A3 P) := xh (HOPY.out.at_.drew)
           have HZ : Hid (wx.drew.cell? ⟨g2, o2 + j, none⟩ = some (.int .i64 x)) := xh (HV2.out _ (Below.drew HBCD.out))
           have HBD : Hid (Below w.heap.size w wx.drew) := xh (Below.drew HBJ.out)
           have HSZ : Hid (wx.heap.size = wx.drew.heap.size) := xh rfl
           have HBX : Hid (Below wx.heap.size wx wx.drew) := xh (Below.drew (Below.refl _ _))
           refine Sched.yy694 (some wx.heap.size) nT (by kernel_rfl) (by kernel_rfl) (fun _ _ d _ _ h => by cases d <;> exact h) ?_
           simp only [nT, nT1, nT0, Sched.picked, List.getElem?_cons_succ, List.getElem?_cons_zero, Option.getD_some]
           have hsd : wx.heap.size = wx.drew.heap.size := rfl
           rw [hsd]
           generalize wx.drew = wd at HWR HBD HZ HBX HSZ ⊢
           have n0 := fun e : ExtB (some wd.heap.size) wd => (e.property.cell (World.block_lt_of_cell? _ _ HZ.out)).trans HZ.out
           repeat (first | (refine Sched.yy857 (by rfl) (fun K hK => ?_); go_big_quiet_op; refine hK _ ?_; clear hK K) | (refine Sched.yy671 (by rfl) ?_; simp only [Act.put, xsa, xsz, xss]))
           clear n0
           have HB : Hid (Below wd.heap.size wd wd) := xh (Below.refl _ _)
           refine Sched.walk_two ?_ ?_
           ·refine Sched.walk_one (by rfl) (fun K hK => ?_)
            go_simp
            have HO : Hid (OwnK ((wd).alloc (.cells #[] 3)) wd.heap.size (some ⟨wd.heap.size, 0, none⟩) 0 []) := by
             have h := OwnK.empty (B := wd.heap.size) wd HB.out.size
             rw [show (wd).heap.size = wd.heap.size from rfl] at h
             exact xh h
            refine hK _ _ ((Below.refl _ _).alloc HB.out.size _) ?_
            replace HB : Hid (Below wd.heap.size wd ((wd).alloc (.cells #[] 3))) := xh (HB.out.alloc HB.out.size _)
            clear hK K
            try simp only [Act.put, xsa, xsz, xss]
            refine Sched.walk_two ?_ ?_
            ·refine Sched.walk_one (by rfl) (fun K hK => ?_)
             refine yy25 (.tmp 88) (.tmp 91) rfl HO.out HB.out.size c3 (HM1.out _ (HWR.out.below HB.out)) (by have := HLEN.out; simp; omega) rfl rfl ?_
             intro P1 r1 y1 hown hb hlies
             refine hK _ _ hb ?_
             replace HB : Hid (Below wd.heap.size wd y1) := xh (HB.out.trans hb)
             replace HO := xh hown
             clear hK K hown hb hlies
             try simp only [Act.put, xsa, xsz, xss]
             refine Sched.walk_one (by rfl) (fun K hK => ?_)
             go_simp
             have HL : Hid (NumsAt ((y1).alloc (.cells #[.int .i64 x] 3)) (some ⟨y1.heap.size, 0, none⟩) [x]) := xh (yy277 y1 x _ rfl)
             replace HO := xh (HO.out.alloc (.cells #[.int .i64 x] 3))
             refine hK _ _ ((Below.refl _ _).alloc HB.out.size _) ?_
             replace HB : Hid (Below wd.heap.size wd ((y1).alloc (.cells #[.int .i64 x] 3))) := xh (HB.out.alloc HB.out.size _)
             clear hK K
             try simp only [Act.put, xsa, xsz, xss]
             refine Sched.walk_one (by rfl) (fun K hK => ?_)
             refine yy25 (.tmp 92) (.tmp 97) rfl HO.out HB.out.size 1 HL.out (by have := HLEN.out; simp; omega) rfl rfl ?_
             intro P2 r2 y2 hown hb hlies
             refine hK _ _ hb ?_
             replace HB : Hid (Below wd.heap.size wd y2) := xh (HB.out.trans hb)
             replace HO := xh hown
             clear hK K hown hb hlies
             try simp only [Act.put, xsa, xsz, xss]
             refine Sched.walk_one (by rfl) (fun K hK => ?_)
             refine yy25 (.tmp 98) (.tmp 101) rfl HO.out HB.out.size (c3 - q) (HM2.out _ (HWR.out.below HB.out)) (by have := HLEN.out; simp; omega) rfl rfl ?_
             intro P3 r3 y3 hown hb hlies
             refine hK _ _ hb ?_
             replace HB : Hid (Below wd.heap.size wd y3) := xh (HB.out.trans hb)
             replace HO := xh hown
             clear hK K hown hb hlies
             try simp only [Act.put, xsa, xsz, xss]
             repeat (first | (refine Sched.yy857 (by rfl) (fun K hK => ?_); go_big_quiet_op; refine hK _ ?_; clear hK K) | (refine Sched.yy671 (by rfl) ?_; simp only [Act.put, xsa, xsz, xss]))
             refine Sched.walk_done ?_
             have HBXX := xh (HBX.out.trans (HB.out.mono HBX.out.size))
             have HI4 := xh (HIY.out.below HBXX.out)
             have HB4 := xh (HBJ.out.trans (HBXX.out.mono HBJ.out.size))
             have HO4 := xh (yy33 HO.out HBD.out.size)
             have hpl := HPL.out
             go_wp2_with fail
             go_roundw
             case rel => exact ⟨j + 1, (m1 ++ [x]) ++ m2, _, _, by omega, rfl, by go_num, trivial, by omega, HR2, HO4, HI4, HB4⟩
             case measure => simp [intOf]; omega
            ·refine Sched.walk_one (by rfl) (fun K hK => ?_)
             go_simp
             have HL : Hid (NumsAt ((((wd).alloc (.cells #[] 3))).alloc (.cells #[.int .i64 x] 3)) (some ⟨(wd.heap.size + 1), 0, none⟩) [x]) := xh (yy277 ((wd).alloc (.cells #[] 3)) x _ (by simp))
             replace HO := xh (HO.out.alloc (.cells #[.int .i64 x] 3))
             refine hK _ _ ((Below.refl _ _).alloc HB.out.size _) ?_
             replace HB : Hid (Below wd.heap.size wd ((((wd).alloc (.cells #[] 3))).alloc (.cells #[.int .i64 x] 3))) := xh (HB.out.alloc HB.out.size _)
             clear hK K
             try simp only [Act.put, xsa, xsz, xss]
             refine Sched.walk_one (by rfl) (fun K hK => ?_)
             refine yy25 (.tmp 88) (.tmp 91) rfl HO.out HB.out.size c3 (HM1.out _ (HWR.out.below HB.out)) (by have := HLEN.out; simp; omega) rfl rfl ?_
             intro P1 r1 y1 hown hb hlies
             replace HL := xh (hlies _ _ (by simp <;> omega) (fun b e => by injection e with e; subst e; simp) HL.out)
             refine hK _ _ hb ?_
             replace HB : Hid (Below wd.heap.size wd y1) := xh (HB.out.trans hb)
             replace HO := xh hown
             clear hK K hown hb hlies
             try simp only [Act.put, xsa, xsz, xss]
             refine Sched.walk_one (by rfl) (fun K hK => ?_)
             refine yy25 (.tmp 92) (.tmp 97) rfl HO.out HB.out.size 1 HL.out (by have := HLEN.out; simp; omega) rfl rfl ?_
             intro P2 r2 y2 hown hb hlies
             refine hK _ _ hb ?_
             replace HB : Hid (Below wd.heap.size wd y2) := xh (HB.out.trans hb)
             replace HO := xh hown
             clear hK K hown hb hlies
             try simp only [Act.put, xsa, xsz, xss]
             refine Sched.walk_one (by rfl) (fun K hK => ?_)
             refine yy25 (.tmp 98) (.tmp 101) rfl HO.out HB.out.size (c3 - q) (HM2.out _ (HWR.out.below HB.out)) (by have := HLEN.out; simp; omega) rfl rfl ?_
             intro P3 r3 y3 hown hb hlies
             refine hK _ _ hb ?_
             replace HB : Hid (Below wd.heap.size wd y3) := xh (HB.out.trans hb)
             replace HO := xh hown
             clear hK K hown hb hlies
             try simp only [Act.put, xsa, xsz, xss]
             repeat (first | (refine Sched.yy857 (by rfl) (fun K hK => ?_); go_big_quiet_op; refine hK _ ?_; clear hK K) | (refine Sched.yy671 (by rfl) ?_; simp only [Act.put, xsa, xsz, xss]))
             refine Sched.walk_done ?_
             have HBXX := xh (HBX.out.trans (HB.out.mono HBX.out.size))
             have HI4 := xh (HIY.out.below HBXX.out)
             have HB4 := xh (HBJ.out.trans (HBXX.out.mono HBJ.out.size))
             have HO4 := xh (yy33 HO.out HBD.out.size)
             have hpl := HPL.out
             go_wp2_with fail
             go_roundw
             case rel => exact ⟨j + 1, (m1 ++ [x]) ++ m2, _, _, by omega, rfl, by go_num, trivial, by omega, HR2, HO4, HI4, HB4⟩
             case measure => simp [intOf]; omega
           ·refine Sched.walk_one (by rfl) (fun K hK => ?_)
            go_simp
            have HL : Hid (NumsAt ((wd).alloc (.cells #[.int .i64 x] 3)) (some ⟨wd.heap.size, 0, none⟩) [x]) := xh (yy277 wd x _ rfl)
            refine hK _ _ ((Below.refl _ _).alloc HB.out.size _) ?_
            replace HB : Hid (Below wd.heap.size wd ((wd).alloc (.cells #[.int .i64 x] 3))) := xh (HB.out.alloc HB.out.size _)
            clear hK K
            try simp only [Act.put, xsa, xsz, xss]
            refine Sched.walk_one (by rfl) (fun K hK => ?_)
            go_simp
            have HO : Hid (OwnK ((((wd).alloc (.cells #[.int .i64 x] 3))).alloc (.cells #[] 3)) wd.heap.size (some ⟨(wd.heap.size + 1), 0, none⟩) 0 []) := by
             have h := OwnK.empty (B := wd.heap.size) ((wd).alloc (.cells #[.int .i64 x] 3)) HB.out.size
             rw [show (((wd).alloc (.cells #[.int .i64 x] 3))).heap.size = (wd.heap.size + 1) from (by simp)] at h
             exact xh h
            replace HL := xh (HL.out.below ((Below.refl _ _).alloc (Nat.le_refl _) (.cells #[] 3)))
            refine hK _ _ ((Below.refl _ _).alloc HB.out.size _) ?_
            replace HB : Hid (Below wd.heap.size wd ((((wd).alloc (.cells #[.int .i64 x] 3))).alloc (.cells #[] 3))) := xh (HB.out.alloc HB.out.size _)
            clear hK K
            try simp only [Act.put, xsa, xsz, xss]
            refine Sched.walk_one (by rfl) (fun K hK => ?_)
            refine yy25 (.tmp 88) (.tmp 91) rfl HO.out HB.out.size c3 (HM1.out _ (HWR.out.below HB.out)) (by have := HLEN.out; simp; omega) rfl rfl ?_
            intro P1 r1 y1 hown hb hlies
            replace HL := xh (hlies _ _ (by simp <;> omega) (fun b e => by injection e with e; subst e; simp) HL.out)
            refine hK _ _ hb ?_
            replace HB : Hid (Below wd.heap.size wd y1) := xh (HB.out.trans hb)
            replace HO := xh hown
            clear hK K hown hb hlies
            try simp only [Act.put, xsa, xsz, xss]
            refine Sched.walk_one (by rfl) (fun K hK => ?_)
            refine yy25 (.tmp 92) (.tmp 97) rfl HO.out HB.out.size 1 HL.out (by have := HLEN.out; simp; omega) rfl rfl ?_
            intro P2 r2 y2 hown hb hlies
            refine hK _ _ hb ?_
            replace HB : Hid (Below wd.heap.size wd y2) := xh (HB.out.trans hb)
            replace HO := xh hown
            clear hK K hown hb hlies
            try simp only [Act.put, xsa, xsz, xss]
            refine Sched.walk_one (by rfl) (fun K hK => ?_)
            refine yy25 (.tmp 98) (.tmp 101) rfl HO.out HB.out.size (c3 - q) (HM2.out _ (HWR.out.below HB.out)) (by have := HLEN.out; simp; omega) rfl rfl ?_
            intro P3 r3 y3 hown hb hlies
            refine hK _ _ hb ?_
            replace HB : Hid (Below wd.heap.size wd y3) := xh (HB.out.trans hb)
            replace HO := xh hown
            clear hK K hown hb hlies
            try simp only [Act.put, xsa, xsz, xss]
            repeat (first | (refine Sched.yy857 (by rfl) (fun K hK => ?_); go_big_quiet_op; refine hK _ ?_; clear hK K) | (refine Sched.yy671 (by rfl) ?_; simp only [Act.put, xsa, xsz, xss]))
            refine Sched.walk_done ?_
            have HBXX := xh (HBX.out.trans (HB.out.mono HBX.out.size))
            have HI4 := xh (HIY.out.below HBXX.out)
            have HB4 := xh (HBJ.out.trans (HBXX.out.mono HBJ.out.size))
            have HO4 := xh (yy33 HO.out HBD.out.size)
            have hpl := HPL.out
            go_wp2_with fail
            go_roundw
            case rel => exact ⟨j + 1, (m1 ++ [x]) ++ m2, _, _, by omega, rfl, by go_num, trivial, by omega, HR2, HO4, HI4, HB4⟩
            case measure => simp [intOf]; omega
       ·obtain rfl : j = 2 := by omega
        have HRR : Hid (P = R) := xh (by have := HR.out; rw [List.drop_of_length_le (by rw [HIL.out]; omega)] at this; exact this)
        obtain ⟨w7, hw7⟩ : ∃ y, y = wj := ⟨wj, rfl⟩
        subst hw7
        have hkl := hPl
        go_wp2_with fail
        go_roundw
        case rel => exact ⟨k + 1, A3, c3, by omega, by rw [HT.out, ← HRR.out], by go_num, trivial, trivial, trivial, by rw [HT.out, ← HRR.out]; exact HOP, HBL⟩
        case measure => simp [intOf]; omega
  ·obtain rfl : k = l.length := by omega
   go_wp2
   go_ret
   exact ⟨⟨A1, ⟨c1, rfl⟩, HO.out.at_⟩, HBEL.out⟩
end Go.Proofs.YtjpjdkdbgjipnaaDoor
