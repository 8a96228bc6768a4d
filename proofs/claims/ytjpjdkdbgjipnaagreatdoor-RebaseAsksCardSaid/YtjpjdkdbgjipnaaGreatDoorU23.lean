/- The landed txn: whether there is an edit of one already, and how much is put in. Conditions: acts that may be looked at. -/
import Derived.Test.YtjpjdkdbgjipnaaGreatDoorU10
import Derived.Test.YtjpjdkdbgjipnaaGreatDoorU19
import Derived.Test.YtjpjdkdbgjipnaaGreatDoorU6
import Derived.Test.YtjpjdkdbgjipnaaGreatDoorShelf
namespace Go.Proofs.YtjpjdkdbgjipnaaGreatDoor
open Go.RowKit Go.Deep
def edB (id : Int) (y : ActV) : Bool := decide (y.kind = 4 ∧ y.id = id)
set_option maxRecDepth 100000 in
theorem yy460 (b : Nat) (id : Int) (y : ActV) (w : World) (hb : b < w.heap.size) (hc : w.cell? ⟨b, 0, none⟩ = some (.int .i64 id)) :
  Calls Tryz.prog 70 #[.agg (yy0 y).toArray, .pointer (some ⟨b, 0, none⟩)] w fun e w' => e = .returned (.bool (edB id y)) ∧ Below w.heap.size w w' := by
 have HB := xh hb
 obtain ⟨k, i, p, n, d, A, c, o⟩ := y
 unfold yy0 edB
 simp only
 have hc2 : (w.alloc (.cells #[.int .i64 k, .int .i64 i, .int .i64 p, .string (bstr n), .bool d, .slice A o.length c] 26)).cell? ⟨b, 0, none⟩ = some (.int .i64 id) := (((Below.refl w.heap.size w).alloc (Nat.le_refl _) _).cell (p := ⟨b, 0, none⟩) hb).trans hc
 clear hc hb
 by_cases h : k = 4
 ·subst h
  by_cases g : i = id
  ·subst g
   rw [decide_eq_true ⟨rfl, rfl⟩]
   go_enter Tryz.func70, Tryz.ntmps70
   go_wp2
   go_ret
   exact ⟨rfl, (Below.refl _ _).alloc (Nat.le_refl _) _⟩
  ·have e : (i == id) = false := xn g
   rw [decide_eq_false fun h => g h.2]
   clear g
   go_enter Tryz.func70, Tryz.ntmps70
   go_wp2
   go_ret
   exact ⟨rfl, (Below.refl _ _).alloc (Nat.le_refl _) _⟩
 ·have e : (k == 4) = false := xn h
  rw [decide_eq_false fun g => h g.1]
  clear h
  go_enter Tryz.func70, Tryz.ntmps70
  go_wp2
  go_ret
  exact ⟨rfl, (Below.refl _ _).alloc (Nat.le_refl _) _⟩
set_option maxHeartbeats 1000000 in
set_option maxRecDepth 100000 in
theorem yy195 (A : Option Addr) (c : Nat) (fv : Value) (w : World) :
  Calls Tryz.prog 69 #[.slice A 0 c, fv] w fun e w' => e = .returned (.bool false) ∧ w = w' := by
 have G : ∀ w, Calls Tryz.prog 86 #[.slice A 0 c, fv] w fun e w' => e = .returned (.int .i64 (-1)) ∧ w = w' := by
  intro w
  go_enter Tryz.func86, Tryz.ntmps86
  go_wp2
  go_loopw [5, 8] (fun s5 s8 wr => s5 = s5 ∧ s8 = .int .i64 0 ∧ wr = w) (fun _ _ _ => 0)
  case atStart => exact ⟨rfl, rfl, rfl⟩
  case round =>
   obtain ⟨_, rfl, rfl⟩ := hrel
   go_wp2
   go_ret
   exact ⟨rfl, rfl⟩
 have G2 := xh G
 clear G
 go_enter Tryz.func69, Tryz.ntmps69
 go_wp2_with fail
 refine (G2.out _).mono ?_
 rintro e w' ⟨rfl, rfl⟩
 go_wp2
 go_ret
 exact ⟨rfl, rfl⟩
theorem yy747 (w : World) : (isAgg 26).run Tryz.prog w = .ok true w := Tryz.isAgg26 w
theorem yy230 (A : Option Addr) (c : Nat) (m : List ActV) (b : Nat) (id : Int) (w : World) (hb : b < w.heap.size) (hc : w.cell? ⟨b, 0, none⟩ = some (.int .i64 id)) (hA : ActsAt w A m) (hml : m.length ≤ 1048576) :
  Calls Tryz.prog 69 #[.slice A m.length c, .func (.func 70) #[] #[.pointer (some ⟨b, 0, none⟩)]] w fun e w' => e = .returned (.bool (m.any (edB id))) ∧ Below w.heap.size w w' := by
 by_cases hm : m = []
 ·subst hm
  exact (yy195 A c _ w).mono fun e w' ⟨h1, h2⟩ => ⟨h1, by rw [← h2]; exact Below.refl _ _⟩
 ·obtain ⟨bl, off, rfl, hbl⟩ := hA.form (List.length_pos_iff.2 hm)
  have eg : ∀ args w, (callFunc 70 args).run Tryz.prog w = .ok (.enter 70 args) w := enters_of Tryz.func70 (by kernel_rfl) rfl
  have hcon := AnyQ.slices_ContainsFunc Tryz.containsActs 6 (fun w => yy747 w) (fun w => Tryz.sizeOf26 w) yy0 yy16 (edB id) 70 #[.pointer (some ⟨b, 0, none⟩)] eg bl off m.length c m w
   (fun W x hbW => (yy460 b id x W (Nat.lt_of_lt_of_le hb hbW.size) ((hbW.cell (p := ⟨b, 0, none⟩) hb).trans hc)).mono fun e w' ⟨h1, h2⟩ => ⟨h1, hbW.trans (h2.mono hbW.size)⟩)
   (Nat.le_refl _) (by omega) hbl (fun j hj i v hv => ?_)
  ·rw [List.take_length] at hcon
   exact hcon
  ·rw [List.getElem!_eq_getElem?_getD, List.getElem?_eq_getElem hj] at hv
   have := yy7.cell hA.1 (j := j * 6 + i) (v := v) (by
    have hi : i < 6 := by
     have := (List.getElem?_eq_some_iff.1 hv).1
     exact this
    rw [flat_get yy0 6 yy16 m j hj i hi]
    exact hv)
   rw [Nat.add_assoc]
   exact this
set_option maxRecDepth 100000 in
theorem yy537 (A : Option Addr) (c : Nat) (m : List ActV) (id : Int) (w : World) (hA : ActsAt w A m) (hml : m.length ≤ 1048576) :
  Calls Tryz.prog 41 #[.slice A m.length c, .int .i64 id] w fun e w' => e = .returned (.bool (m.any (edB id))) ∧ Below w.heap.size w w' := by
 have hb1 : Below w.heap.size w (w.alloc (.cells #[.int .i64 id] 3)) := (Below.refl _ _).alloc (Nat.le_refl _) _
 have G := xh (yy230 A c m w.heap.size id (w.alloc (.cells #[.int .i64 id] 3)) (by simp) (cell_of_row _ _ _ _ _ _ (heap_alloc_new w _)) (hA.below hb1) hml)
 have HB := xh hb1
 clear hb1 hA
 obtain ⟨T, HT⟩ : ∃ T, Hid (m.any (edB id) = T) := ⟨_, xh rfl⟩
 rw [HT.out] at G ⊢
 go_enter Tryz.func41, Tryz.ntmps41
 go_wp2_with fail
 refine G.out.mono ?_
 rintro e w1 ⟨rfl, hb⟩
 go_wp2
 go_ret
 exact ⟨rfl, HB.out.trans (hb.mono HB.out.size)⟩
def insK (l : List CompV) : Nat := (l.map fun c => if c.kind = 2 then loose c.text else 0).sum
def insA (l : List ActV) : Nat := (l.map fun a => insK a.ops).sum
theorem yy461 (l m : List CompV) : insK (l ++ m) = insK l + insK m := by simp [insK]
theorem yy462 (l m : List ActV) : insA (l ++ m) = insA l + insA m := by simp [insA]
theorem yy608 {l : List CompV} {k : Nat} (hk : k < l.length) : insK (l.take (k + 1)) = insK (l.take k) + if l[k].kind = 2 then loose l[k].text else 0 := by
 rw [List.take_succ_eq_append_getElem hk, yy461]
 simp [insK]
theorem yy418 {l : List ActV} {k : Nat} (hk : k < l.length) : insA (l.take (k + 1)) = insA (l.take k) + insK l[k].ops := by
 rw [List.take_succ_eq_append_getElem hk, yy462]
 simp [insA]
theorem yy654 (l : List CompV) : insK l ≤ tlen l := by
 induction l with
 | nil => simp [insK]
 | cons c l ih =>
  have h1 : insK (c :: l) = (if c.kind = 2 then loose c.text else 0) + insK l := by simp [insK]
  have h2 : tlen (c :: l) = c.text.length + tlen l := by simp [tlen]
  have := yy102 c.text
  split at h1 <;> omega
theorem yy369 (l : List CompV) (k : Nat) : tlen (l.take k) ≤ tlen l := by
 have h : tlen l = tlen (l.take k) + tlen (l.drop k) := by
  have e := List.take_append_drop k l
  unfold tlen
  rw [← List.length_append, ← List.flatMap_append, e]
 omega
theorem yy748 {l : List CompV} (h : rCheck l = 0) : insK l = insT l := by
 have hw := (ok_of h).wh
 unfold insK insT
 congr 1
 refine List.map_congr_left fun c hc => ?_
 rcases (hw c hc).cases with ⟨k, _, t⟩ | ⟨k, _, t⟩ | ⟨k, _, _, t⟩
 ·rw [if_neg (by omega), t, yy211]; rfl
 ·rw [if_neg (by omega), t, yy211]; rfl
 ·rw [if_pos k, yy264 t]
theorem yy749 {a b : Int} (h1 : 0 ≤ a) (h2 : 0 ≤ b) (h3 : a + b ≤ 1099511627776) : hld a b = a + b := by unfold hld; omega
theorem yy694 {n : Int} {t : List Nat} (h : t.length ≤ 1099511627776) : rOut [CompV.mk 2 n t] = (loose t : Int) := by
 have := yy102 t
 rw [show [CompV.mk 2 n t] = [] ++ [CompV.mk 2 n t] from rfl, yy261, yy661]
 rw [yy56, if_neg (by simp), if_pos rfl, yy749 (by omega) (by omega) (by simp only; omega), Int.zero_add]
theorem yy750 {l : List ActV} (h : ∀ a ∈ l, ActOk a) : insA l ≤ l.length * 4000 := by
 induction l with
 | nil => simp [insA]
 | cons a l ih =>
  have h1 : insA (a :: l) = insK a.ops + insA l := by simp [insA]
  have h2 := ih fun x hx => h x (List.mem_cons_of_mem _ hx)
  have h3 := yy654 a.ops
  have h4 := (h a (List.mem_cons_self ..)).2.2.2
  rw [List.length_cons]
  omega
set_option maxHeartbeats 4000000 in
set_option maxRecDepth 100000 in
theorem yy370 (A : Option Addr) (c : Nat) (l : List ActV) (hl : l.length ≤ 1048576) (hg : ∀ a ∈ l, ActOk a) (w : World) (hA : ActsAt w A l) :
  Calls Tryz.prog 42 #[.slice A l.length c] w fun e w' => e = .returned (.int .i64 (insA l : Int)) ∧ Below w.heap.size w w' := by
 have HA := xh hA; clear hA
 have HG := xh hg; clear hg
 have HTAKE : Hid (∀ k, insA (l.take k) ≤ 4194304000) := xh (fun k => by
  have h := yy750 (l := l.take k) fun a ha => HG.out a (List.mem_of_mem_take ha)
  rw [List.length_take] at h
  omega)
 go_enter Tryz.func42, Tryz.ntmps42
 go_wp2
 go_loopw [3, 5, 7, 10] (fun n s5 s7 i wr => ∃ k N : Nat, k ≤ l.length ∧ n = .int .i64 (N : Int) ∧ s5 = s5 ∧ s7 = s7 ∧ i = .int .i64 (k : Int) ∧ Hid (insA (l.take k) = N) ∧ Hid (Below w.heap.size w wr)) (fun _ _ _ i _ => l.length - (intOf i).toNat)
 case atStart => exact ⟨0, 0, Nat.zero_le _, rfl, rfl, rfl, rfl, xh rfl, xh (Below.refl _ _)⟩
 case round =>
  obtain ⟨k, N, hk, rfl, _, _, rfl, HN, HBEL⟩ := hrel
  obtain ⟨wo, hwo⟩ : ∃ x, x = wr := ⟨wr, rfl⟩
  subst hwo
  have hNT := HTAKE.out k
  rw [HN.out] at hNT
  by_cases hlt : k < l.length
  ·obtain ⟨b, off, rfl, _⟩ := HA.out.form (by omega)
   have hltI : (k : Int) < (l.length : Int) := by omega
   obtain ⟨z0, z1, z2, z3, z4, z5⟩ := (HA.out.below HBEL.out).at_ hlt
   have HCO := xh ((HA.out.below HBEL.out).2 _ (List.getElem_mem hlt))
   have HOK := xh (HG.out _ (List.getElem_mem hlt))
   have HNX : Hid (insA (l.take (k + 1)) = N + insK l[k].ops) := xh (by rw [yy418 hlt, HN.out])
   have hNX := HTAKE.out (k + 1)
   rw [HNX.out] at hNX
   generalize l[k] = a at z0 z1 z2 z3 z4 z5 HCO HOK HNX hNX
   obtain ⟨ak, ai, ap, an, ad, aA, aC, ao⟩ := a
   simp only at z0 z1 z2 z3 z4 z5 HCO HOK HNX hNX
   have hol := HOK.out.1.2.2.2.2.2
   simp only at hol
   have HOL : Hid (ao.length ≤ maxLen) := xh (by omega)
   unfold maxLen at hol
   have hbo : Below wo.heap.size wo (wo.alloc (.cells #[.int .i64 ak, .int .i64 ai, .int .i64 ap, .string (bstr an), .bool ad, .slice aA ao.length aC] 26)) := (Below.refl _ _).alloc (Nat.le_refl _) _
   have HBO := xh hbo
   clear hbo
   go_wp2
   go_loopw [3, 7, 17] (fun n s7 j wr => ∃ m M : Nat, m ≤ ao.length ∧ n = .int .i64 (M : Int) ∧ s7 = s7 ∧ j = .int .i64 (m : Int) ∧ Hid (N + insK (ao.take m) = M) ∧ Hid (Below wo.heap.size wo wr)) (fun _ _ j _ => ao.length - (intOf j).toNat)
   case atStart => exact ⟨0, N, Nat.zero_le _, rfl, rfl, rfl, xh rfl, HBO⟩
   case round =>
    obtain ⟨m, M, hm, rfl, _, rfl, HM, HBM⟩ := hrel
    obtain ⟨wi, hwi⟩ : ∃ x, x = wr := ⟨wr, rfl⟩
    subst hwi
    have hM : M ≤ 4194312000 := by
     have h1 := yy654 (ao.take m)
     have h2 := yy369 ao m
     have h3 := HOK.out.2.2.2
     have h4 := HM.out
     simp only at h3
     omega
    by_cases hmt : m < ao.length
    ·obtain ⟨b2, off2, rfl, _⟩ := HCO.out.form (by omega)
     have hmtI : (m : Int) < (ao.length : Int) := by omega
     obtain ⟨x0, x1, x2⟩ := (HCO.out.below HBM.out).at_ hmt
     have HCG := xh (HOK.out.2.2.1 _ (List.getElem_mem hmt))
     have HMX : Hid (N + insK (ao.take (m + 1)) = M + if ao[m].kind = 2 then loose ao[m].text else 0) := xh (by rw [yy608 hmt, ← HM.out]; omega)
     generalize ao[m] = y at x0 x1 x2 HCG HMX
     obtain ⟨yk, yn, yt⟩ := y
     simp only at x0 x1 x2 HCG HMX
     have HBX : Hid (Below wo.heap.size wo (wi.alloc (.cells #[.int .i64 yk, .int .i64 yn, .string (bstr yt)] 60))) := xh (HBM.out.alloc HBM.out.size _)
     by_cases h2 : yk = 2
     ·subst h2
      rw [if_pos rfl] at HMX
      have GO := xh (fun (w : World) (g : Nat) (hg : g = w.heap.size) => yy270 (some ⟨g, 0, none⟩) 1 [CompV.mk 2 yn yt] (by simp [maxLen]) (fun y hy => by rw [List.mem_singleton.1 hy]; exact HCG.out) (w.alloc (.cells #[.int .i64 2, .int .i64 yn, .string (bstr yt)] 60)) (yy7.lit (fun j v hv => by simpa [yy2] using hv) hg))
      rw [yy694 HCG.out.2] at GO
      simp only [List.length_cons, List.length_nil, Nat.zero_add] at GO
      have hzl := yy102 yt
      have hzm := HCG.out.2
      obtain ⟨z, HZ⟩ : ∃ z, Hid (loose yt = z) := ⟨_, xh rfl⟩
      rw [HZ.out] at GO hzl HMX
      go_wp2_with fail
      refine (GO.out _ _ (by simp)).mono ?_
      rintro e w2 ⟨rfl, hb2⟩
      have HB2 : Hid (Below wo.heap.size wo w2) := xh (HBX.out.trans ((((Below.refl _ _).alloc (Nat.le_refl _) _).trans (hb2.mono (by simp))).mono HBX.out.size))
      go_wp2
      go_roundw
      case rel => exact ⟨m + 1, M + z, by omega, by go_num, trivial, by go_num, HMX, HB2⟩
      case measure => simp [intOf]; omega
     ·rw [if_neg h2, Nat.add_zero] at HMX
      have g2 : (yk == 2) = false := xn h2
      clear h2
      go_wp2
      go_roundw
      case rel => exact ⟨m + 1, M, by omega, rfl, trivial, by go_num, HMX, HBX⟩
      case measure => simp [intOf]; omega
    ·obtain rfl : m = ao.length := by omega
     have HE : Hid (insA (l.take (k + 1)) = M) := xh (by rw [HNX.out, ← HM.out, List.take_length])
     have HB3 := xh (HBEL.out.trans (HBM.out.mono HBEL.out.size))
     go_wp2
     go_roundw
     case rel => exact ⟨k + 1, M, by omega, rfl, trivial, trivial, by go_num, HE, HB3⟩
     case measure => simp [intOf]; omega
  ·obtain rfl : k = l.length := by omega
   have HE : Hid (insA l = N) := xh (by have := HN.out; rwa [List.take_length] at this)
   go_wp2
   go_ret
   exact ⟨by rw [HE.out]; rfl, HBEL.out⟩
end Go.Proofs.YtjpjdkdbgjipnaaGreatDoor
