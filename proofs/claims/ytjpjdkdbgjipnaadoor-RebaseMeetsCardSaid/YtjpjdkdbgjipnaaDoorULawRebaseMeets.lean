/- Two that edit one file: the later one, rebased, does behind the first one what it did; nothing of either is lost: RebaseMeets answers true and changes nothing. Condition: the table of conflicts holds what the program's text lays. -/
import Derived.Test.YtjpjdkdbgjipnaaDoorU31
import Derived.Test.YtjpjdkdbgjipnaaDoorU41
import Derived.Test.YtjpjdkdbgjipnaaDoorU38
import Derived.Test.YtjpjdkdbgjipnaaDoorU40
namespace Go.Proofs.YtjpjdkdbgjipnaaDoor
open Go.RowKit Go.Deep
theorem yy40 (s : List Nat) : (yy24 s).length = 1 := rfl
theorem yy741 {t : List Nat} (h : ∀ x ∈ t, x < 123 ∧ 97 ≤ x) : V t t := by
 have e : E t = t := by
  induction t with
  | nil => exact E_nil
  | cons x t ih =>
   have hx := h x (by simp)
   have := V_one x (by omega)
   rw [show x :: t = [x] ++ t from rfl, yy116, this.bytes, ih fun y hy => h y (by simp [hy])]
 have hm : ∀ v ∈ t, May v := fun v hv => (V_one v (by have := h v hv; omega)).may v (by simp)
 have := V.mk hm
 rw [e] at this
 exact this
theorem act_ok {A : Option Addr} {c : Nat} {l : List CompV} (hg : ∀ y ∈ l, y.Good) (hc : l.length ≤ c) (hm : c ≤ maxLen) (ht : tlen l ≤ 4000) : ActOk (edE 1 A c l) :=
 ⟨⟨by show Fit64 4; unfold Fit64; omega, by show Fit64 1; unfold Fit64; omega, by show Fit64 0; unfold Fit64; omega, ⟨by simp [edE], by simp [edE]⟩, hg, hc, hm⟩, by simp [edE], fun y hy => ⟨hg y hy, by have h : y.text.length ≤ tlen l := yy327 hy; omega⟩, ht⟩
theorem yy567 {id : Int} {B : Option Addr} {d : Nat} {a b Q : List CompV} (h : rOver true a b = (Q, 0)) (h0 : a ≠ []) : overK [⟨id, a, true, false, false, false, 0, []⟩] [edE id B d b] = [⟨id, Q, true, false, false, false, 0, []⟩] := by
 unfold overK yy265
 rw [List.map_singleton, List.foldl_cons, List.foldl_nil]
 have e1 : yy72 ⟨id, a, true, false, false, false, 0, []⟩ (edE id B d b) = ⟨id, Q, true, false, false, false, 0, []⟩ := by
  unfold yy72
  rw [if_pos ⟨⟨rfl, rfl⟩, h0, by show (rOver true a b).2 = 0; rw [h]⟩]
  show (⟨id, (rOver true a b).1, true, false, false, false, 0, []⟩ : OneK) = _
  rw [h]
 rw [e1]
set_option maxHeartbeats 8000000 in
set_option maxRecDepth 100000 in
theorem yy306 (n : Int) (A : Option Addr) (a : List CompV) (ca : Nat) (B : Option Addr) (b : List CompV) (cb : Nat) (hn : -9223372036854775808 ≤ n ∧ n ≤ 9223372036854775807) (hla : a.length ≤ maxLen) (hga : ∀ y ∈ a, y.Good) (hlb : b.length ≤ maxLen) (hgb : ∀ y ∈ b, y.Good) (w : World) (hA : CompsC w A ca a) (hB : CompsC w B cb b) (hca : ca ≤ maxLen) (hcb : cb ≤ maxLen) (hC : ConfAt w) :
  Calls Tryd.prog 4 #[.int .i64 n, .slice A a.length ca, .slice B b.length cb] w fun e w' => e = .returned (.bool true) ∧ Below w.heap.size w w' := by
 have HA := xh (fun (X : World) (h : Below w.heap.size w X) => hA.below h)
 have HBC := xh (fun (X : World) (h : Below w.heap.size w X) => hB.below h)
 have HCF := xh (fun (X : World) (h : Below w.heap.size w X) => hC.below h)
 have GW := xh (fun (X : World) (h : Below w.heap.size w X) => yy145 X (HCF.out X h))
 have G1 := xh (fun (X : World) (h : Below w.heap.size w X) => yy299 800 ca hla hga X (HA.out X h))
 have G2 := xh (fun (X : World) (h : Below w.heap.size w X) => yy299 800 cb hlb hgb X (HBC.out X h))
 have HLA := xh hA.2
 have HLB := xh hB.2
 have HCA := xh hca
 have HCB := xh hcb
 clear hA hB hC hca hcb
 obtain ⟨T1, HT1⟩ : ∃ x, Hid (yy30 800 a = x) := ⟨_, xh rfl⟩
 obtain ⟨T2, HT2⟩ : ∃ x, Hid (yy30 800 b = x) := ⟨_, xh rfl⟩
 rw [HT1.out] at G1
 rw [HT2.out] at G2
 have HB := xh (Below.refl w.heap.size w)
 by_cases c0 : n < 0
 ·clear hga hgb hla hlb
  go_enter Tryd.func4, Tryd.ntmps4
  go_wp2_with fail
  refine (GW.out _ HB.out).mono ?_
  rintro e x9 ⟨rfl, hb⟩
  replace HB := xh (HB.out.trans (hb.mono HB.out.size))
  clear hb
  go_wp2
  go_ret
  exact ⟨rfl, HB.out⟩
 obtain ⟨m, rfl⟩ : ∃ m : Nat, n = (m : Int) := ⟨n.toNat, by omega⟩
 by_cases c1 : 200 < m
 ·clear hga hgb hla hlb
  have c1I : (200 : Int) < (m : Int) := by omega
  go_enter Tryd.func4, Tryd.ntmps4
  go_wp2_with fail
  refine (GW.out _ HB.out).mono ?_
  rintro e x9 ⟨rfl, hb⟩
  replace HB := xh (HB.out.trans (hb.mono HB.out.size))
  clear hb
  go_wp2
  go_ret
  exact ⟨rfl, HB.out⟩
 have c1I : ¬ (200 : Int) < (m : Int) := by omega
 by_cases c2 : 800 < T1
 ·clear hga hgb hla hlb
  go_enter Tryd.func4, Tryd.ntmps4
  go_wp2_with fail
  refine (G1.out _ HB.out).mono ?_
  rintro e x1 ⟨rfl, hb⟩
  replace HB := xh (HB.out.trans (hb.mono HB.out.size))
  clear hb
  go_wp2_with fail
  refine (GW.out _ HB.out).mono ?_
  rintro e x9 ⟨rfl, hb⟩
  replace HB := xh (HB.out.trans (hb.mono HB.out.size))
  clear hb
  go_wp2
  go_ret
  exact ⟨rfl, HB.out⟩
 by_cases c3 : 800 < T2
 ·clear hga hgb hla hlb
  go_enter Tryd.func4, Tryd.ntmps4
  go_wp2_with fail
  refine (G1.out _ HB.out).mono ?_
  rintro e x1 ⟨rfl, hb⟩
  replace HB := xh (HB.out.trans (hb.mono HB.out.size))
  clear hb
  go_wp2_with fail
  refine (G2.out _ HB.out).mono ?_
  rintro e x2 ⟨rfl, hb⟩
  replace HB := xh (HB.out.trans (hb.mono HB.out.size))
  clear hb
  go_wp2_with fail
  refine (GW.out _ HB.out).mono ?_
  rintro e x9 ⟨rfl, hb⟩
  replace HB := xh (HB.out.trans (hb.mono HB.out.size))
  clear hb
  go_wp2
  go_ret
  exact ⟨rfl, HB.out⟩
 have ha8 := yy153 800 (by omega) a (by rw [HT1.out]; omega)
 have hb8 := yy153 800 (by omega) b (by rw [HT2.out]; omega)
 have HEA := xh (yy591 hga ha8 (by omega))
 have HEB := xh (yy591 hgb hb8 (by omega))
 have HTA : Hid (tlen a ≤ 4000) := xh (by omega)
 have HTB : Hid (tlen b ≤ 4000) := xh (by omega)
 have hi2 : ¬ (800 : Int) < (T1 : Int) := by omega
 have hi3 : ¬ (800 : Int) < (T2 : Int) := by omega
 clear hga hgb hla hlb ha8 hb8
 have GB := xh (fun (X : World) => yy665 m (by omega) 3 X)
 have hsv : V (blks m 3) (blks m 3) := yy741 (yy893 m 3)
 have hsl := yy221 m 3
 generalize blks m 3 = s at GB hsv hsl
 have HTS := xh (yy738 ⟨_, hsv⟩ (by omega) (by rw [cps_of hsv]; omega))
 have HSV := xh hsv
 clear hsv hsl
 by_cases ea : dErr s a = 0
 rotate_left
 ·have HNA := xh (yy364 (A := A) (c := ca) ea)
  clear ea
  go_enter Tryd.func4, Tryd.ntmps4
  go_wp2_with fail
  refine (G1.out _ HB.out).mono ?_
  rintro e x1 ⟨rfl, hb⟩
  replace HB := xh (HB.out.trans (hb.mono HB.out.size))
  clear hb
  go_wp2_with fail
  refine (G2.out _ HB.out).mono ?_
  rintro e x2 ⟨rfl, hb⟩
  replace HB := xh (HB.out.trans (hb.mono HB.out.size))
  clear hb
  go_wp2_with fail
  refine (GB.out _).mono ?_
  rintro e x3 ⟨rfl, hb⟩
  replace HB := xh (HB.out.trans (hb.mono HB.out.size))
  clear hb
  obtain ⟨gt, hgt⟩ : ∃ g, g = x3.heap.size := ⟨_, rfl⟩
  have hb1 := (Below.refl x3.heap.size x3).alloc (Nat.le_refl _) (.cells #[.int .i64 1, .int .i64 0, .string { data := #[102] }, .bool false, .string (bstr s)] 44)
  have h1 : yy14 (x3.alloc (.cells #[.int .i64 1, .int .i64 0, .string { data := #[102] }, .bool false, .string (bstr s)] 44)) (some ⟨gt, 0, none⟩) (yy24 s) := yy122 x3 ⟨1, 0, [102], false, s⟩ gt hgt
  have hB1 := HB.out.trans (hb1.mono HB.out.size)
  have hb2 := (Below.refl (x3.alloc (.cells #[.int .i64 1, .int .i64 0, .string { data := #[102] }, .bool false, .string (bstr s)] 44)).heap.size (x3.alloc (.cells #[.int .i64 1, .int .i64 0, .string { data := #[102] }, .bool false, .string (bstr s)] 44))).alloc (Nat.le_refl _) (.cells #[.int .i64 4, .int .i64 1, .int .i64 0, .string { data := #[] }, .bool false, .slice A a.length ca] 46)
  have h2 : ActsAt ((x3.alloc (.cells #[.int .i64 1, .int .i64 0, .string { data := #[102] }, .bool false, .string (bstr s)] 44)).alloc (.cells #[.int .i64 4, .int .i64 1, .int .i64 0, .string { data := #[] }, .bool false, .slice A a.length ca] 46)) (some ⟨gt + 1, 0, none⟩) [edE 1 A ca a] := yy51 (x3.alloc (.cells #[.int .i64 1, .int .i64 0, .string { data := #[102] }, .bool false, .string (bstr s)] 44)) (edE 1 A ca a) (HA.out _ hB1).1 (gt + 1) (by rw [World.size_alloc, hgt])
  have hB2 := hB1.trans (hb2.mono hB1.size)
  have hb3 := (Below.refl ((x3.alloc (.cells #[.int .i64 1, .int .i64 0, .string { data := #[102] }, .bool false, .string (bstr s)] 44)).alloc (.cells #[.int .i64 4, .int .i64 1, .int .i64 0, .string { data := #[] }, .bool false, .slice A a.length ca] 46)).heap.size ((x3.alloc (.cells #[.int .i64 1, .int .i64 0, .string { data := #[102] }, .bool false, .string (bstr s)] 44)).alloc (.cells #[.int .i64 4, .int .i64 1, .int .i64 0, .string { data := #[] }, .bool false, .slice A a.length ca] 46))).alloc (Nat.le_refl _) (.cells #[.int .i64 4, .int .i64 1, .int .i64 0, .string { data := #[] }, .bool false, .slice B b.length cb] 46)
  have h3 : ActsAt (((x3.alloc (.cells #[.int .i64 1, .int .i64 0, .string { data := #[102] }, .bool false, .string (bstr s)] 44)).alloc (.cells #[.int .i64 4, .int .i64 1, .int .i64 0, .string { data := #[] }, .bool false, .slice A a.length ca] 46)).alloc (.cells #[.int .i64 4, .int .i64 1, .int .i64 0, .string { data := #[] }, .bool false, .slice B b.length cb] 46)) (some ⟨gt + 1 + 1, 0, none⟩) [edE 1 B cb b] := yy51 ((x3.alloc (.cells #[.int .i64 1, .int .i64 0, .string { data := #[102] }, .bool false, .string (bstr s)] 44)).alloc (.cells #[.int .i64 4, .int .i64 1, .int .i64 0, .string { data := #[] }, .bool false, .slice A a.length ca] 46)) (edE 1 B cb b) (HBC.out _ hB2).1 (gt + 1 + 1) (by rw [World.size_alloc, World.size_alloc, hgt])
  have HB3 := xh (hB2.trans (hb3.mono hB2.size))
  have h2' := h2.below hb3
  have h1' := (h1.below hb2).below hb3
  have HGT := xh hgt
  clear hgt h1 h2 hb1 hb2 hb3 hB1 hB2 HB
  obtain ⟨W3, HW3⟩ : ∃ x, Hid ((((x3.alloc (.cells #[.int .i64 1, .int .i64 0, .string { data := #[102] }, .bool false, .string (bstr s)] 44)).alloc (.cells #[.int .i64 4, .int .i64 1, .int .i64 0, .string { data := #[] }, .bool false, .slice A a.length ca] 46)).alloc (.cells #[.int .i64 4, .int .i64 1, .int .i64 0, .string { data := #[] }, .bool false, .slice B b.length cb] 46)) = x) := ⟨_, xh rfl⟩
  rw [HW3.out] at h1' h2' h3 HB3
  go_upto_region 5 with fail
  rw [← HGT.out, HW3.out]
  clear HGT HW3
  have HN := xh (fun (X : World) (h : Below W3.heap.size W3 X) => (⟨h1'.below h, Nat.le_refl _⟩ : NodesC X (some ⟨gt, 0, none⟩) 1 (yy24 s)))
  have HO := xh (fun (X : World) (h : Below W3.heap.size W3 X) => h2'.below h)
  have HW := xh (fun (X : World) (h : Below W3.heap.size W3 X) => h3.below h)
  clear h1' h2' h3
  have HB := HB3
  clear HB3
  have HD := xh (Below.refl W3.heap.size W3)
  have GD1 := xh (fun (X : World) (h : Below W3.heap.size W3 X) => yy36 HTS.out (some ⟨gt, 0, none⟩) 1 (some ⟨gt + 1, 0, none⟩) 1 [edE 1 A ca a] (by simp [maxLen]) (fun y hy => by rw [List.mem_singleton.1 hy]; exact act_ok HEA.out.good HLA.out HCA.out HTA.out) X (HN.out X h) (HO.out X h))
  have GD2 := xh (fun (X : World) (h : Below W3.heap.size W3 X) => yy36 HTS.out (some ⟨gt, 0, none⟩) 1 (some ⟨gt + 1 + 1, 0, none⟩) 1 [edE 1 B cb b] (by simp [maxLen]) (fun y hy => by rw [List.mem_singleton.1 hy]; exact act_ok HEB.out.good HLB.out HCB.out HTB.out) X (HN.out X h) (HW.out X h))
  simp only [yy40, List.length_cons, List.length_nil, Nat.zero_add] at GD1 GD2
  obtain ⟨⟨X, px, ux⟩, HVX⟩ : ∃ r, Hid (doAllV (yy24 s) [edE 1 A ca a] = r) := ⟨_, xh rfl⟩
  rw [HVX.out] at GD1 HNA
  obtain ⟨⟨Y, py, uy⟩, HVY⟩ : ∃ r, Hid (doAllV (yy24 s) [edE 1 B cb b] = r) := ⟨_, xh rfl⟩
  rw [HVY.out] at GD2
  clear HVX HVY
  simp only at GD1 GD2 HNA
  have hun : (ux != 0) = true := by simpa using HNA.out
  go_wp2_with fail
  refine (GD1.out _ HD.out).mono ?_
  rintro e x4 ⟨⟨AX, cAX, rfl, hx⟩, hb⟩
  replace HB := xh (HB.out.trans (hb.mono HB.out.size))
  replace HD := xh (HD.out.trans (hb.mono HD.out.size))
  have HX := xh hx
  clear hx
  clear hb
  go_wp2_with fail
  refine (GD2.out _ HD.out).mono ?_
  rintro e x5 ⟨⟨AY, cAY, rfl, hy⟩, hb⟩
  replace HB := xh (HB.out.trans (hb.mono HB.out.size))
  replace HD := xh (HD.out.trans (hb.mono HD.out.size))
  replace HX := xh (HX.out.below hb)
  have HY := xh hy
  clear hy
  clear hb
  go_wp2_with fail
  refine (GW.out _ HB.out).mono ?_
  rintro e x9 ⟨rfl, hb⟩
  replace HB := xh (HB.out.trans (hb.mono HB.out.size))
  clear hb
  go_wp2
  go_ret
  exact ⟨rfl, HB.out⟩
 by_cases eb : dErr s b = 0
 rotate_left
 ·have HNB := xh (yy364 (A := B) (c := cb) eb)
  clear eb
  go_enter Tryd.func4, Tryd.ntmps4
  go_wp2_with fail
  refine (G1.out _ HB.out).mono ?_
  rintro e x1 ⟨rfl, hb⟩
  replace HB := xh (HB.out.trans (hb.mono HB.out.size))
  clear hb
  go_wp2_with fail
  refine (G2.out _ HB.out).mono ?_
  rintro e x2 ⟨rfl, hb⟩
  replace HB := xh (HB.out.trans (hb.mono HB.out.size))
  clear hb
  go_wp2_with fail
  refine (GB.out _).mono ?_
  rintro e x3 ⟨rfl, hb⟩
  replace HB := xh (HB.out.trans (hb.mono HB.out.size))
  clear hb
  obtain ⟨gt, hgt⟩ : ∃ g, g = x3.heap.size := ⟨_, rfl⟩
  have hb1 := (Below.refl x3.heap.size x3).alloc (Nat.le_refl _) (.cells #[.int .i64 1, .int .i64 0, .string { data := #[102] }, .bool false, .string (bstr s)] 44)
  have h1 : yy14 (x3.alloc (.cells #[.int .i64 1, .int .i64 0, .string { data := #[102] }, .bool false, .string (bstr s)] 44)) (some ⟨gt, 0, none⟩) (yy24 s) := yy122 x3 ⟨1, 0, [102], false, s⟩ gt hgt
  have hB1 := HB.out.trans (hb1.mono HB.out.size)
  have hb2 := (Below.refl (x3.alloc (.cells #[.int .i64 1, .int .i64 0, .string { data := #[102] }, .bool false, .string (bstr s)] 44)).heap.size (x3.alloc (.cells #[.int .i64 1, .int .i64 0, .string { data := #[102] }, .bool false, .string (bstr s)] 44))).alloc (Nat.le_refl _) (.cells #[.int .i64 4, .int .i64 1, .int .i64 0, .string { data := #[] }, .bool false, .slice A a.length ca] 46)
  have h2 : ActsAt ((x3.alloc (.cells #[.int .i64 1, .int .i64 0, .string { data := #[102] }, .bool false, .string (bstr s)] 44)).alloc (.cells #[.int .i64 4, .int .i64 1, .int .i64 0, .string { data := #[] }, .bool false, .slice A a.length ca] 46)) (some ⟨gt + 1, 0, none⟩) [edE 1 A ca a] := yy51 (x3.alloc (.cells #[.int .i64 1, .int .i64 0, .string { data := #[102] }, .bool false, .string (bstr s)] 44)) (edE 1 A ca a) (HA.out _ hB1).1 (gt + 1) (by rw [World.size_alloc, hgt])
  have hB2 := hB1.trans (hb2.mono hB1.size)
  have hb3 := (Below.refl ((x3.alloc (.cells #[.int .i64 1, .int .i64 0, .string { data := #[102] }, .bool false, .string (bstr s)] 44)).alloc (.cells #[.int .i64 4, .int .i64 1, .int .i64 0, .string { data := #[] }, .bool false, .slice A a.length ca] 46)).heap.size ((x3.alloc (.cells #[.int .i64 1, .int .i64 0, .string { data := #[102] }, .bool false, .string (bstr s)] 44)).alloc (.cells #[.int .i64 4, .int .i64 1, .int .i64 0, .string { data := #[] }, .bool false, .slice A a.length ca] 46))).alloc (Nat.le_refl _) (.cells #[.int .i64 4, .int .i64 1, .int .i64 0, .string { data := #[] }, .bool false, .slice B b.length cb] 46)
  have h3 : ActsAt (((x3.alloc (.cells #[.int .i64 1, .int .i64 0, .string { data := #[102] }, .bool false, .string (bstr s)] 44)).alloc (.cells #[.int .i64 4, .int .i64 1, .int .i64 0, .string { data := #[] }, .bool false, .slice A a.length ca] 46)).alloc (.cells #[.int .i64 4, .int .i64 1, .int .i64 0, .string { data := #[] }, .bool false, .slice B b.length cb] 46)) (some ⟨gt + 1 + 1, 0, none⟩) [edE 1 B cb b] := yy51 ((x3.alloc (.cells #[.int .i64 1, .int .i64 0, .string { data := #[102] }, .bool false, .string (bstr s)] 44)).alloc (.cells #[.int .i64 4, .int .i64 1, .int .i64 0, .string { data := #[] }, .bool false, .slice A a.length ca] 46)) (edE 1 B cb b) (HBC.out _ hB2).1 (gt + 1 + 1) (by rw [World.size_alloc, World.size_alloc, hgt])
  have HB3 := xh (hB2.trans (hb3.mono hB2.size))
  have h2' := h2.below hb3
  have h1' := (h1.below hb2).below hb3
  have HGT := xh hgt
  clear hgt h1 h2 hb1 hb2 hb3 hB1 hB2 HB
  obtain ⟨W3, HW3⟩ : ∃ x, Hid ((((x3.alloc (.cells #[.int .i64 1, .int .i64 0, .string { data := #[102] }, .bool false, .string (bstr s)] 44)).alloc (.cells #[.int .i64 4, .int .i64 1, .int .i64 0, .string { data := #[] }, .bool false, .slice A a.length ca] 46)).alloc (.cells #[.int .i64 4, .int .i64 1, .int .i64 0, .string { data := #[] }, .bool false, .slice B b.length cb] 46)) = x) := ⟨_, xh rfl⟩
  rw [HW3.out] at h1' h2' h3 HB3
  go_upto_region 5 with fail
  rw [← HGT.out, HW3.out]
  clear HGT HW3
  have HN := xh (fun (X : World) (h : Below W3.heap.size W3 X) => (⟨h1'.below h, Nat.le_refl _⟩ : NodesC X (some ⟨gt, 0, none⟩) 1 (yy24 s)))
  have HO := xh (fun (X : World) (h : Below W3.heap.size W3 X) => h2'.below h)
  have HW := xh (fun (X : World) (h : Below W3.heap.size W3 X) => h3.below h)
  clear h1' h2' h3
  have HB := HB3
  clear HB3
  have HD := xh (Below.refl W3.heap.size W3)
  have GD1 := xh (fun (X : World) (h : Below W3.heap.size W3 X) => yy36 HTS.out (some ⟨gt, 0, none⟩) 1 (some ⟨gt + 1, 0, none⟩) 1 [edE 1 A ca a] (by simp [maxLen]) (fun y hy => by rw [List.mem_singleton.1 hy]; exact act_ok HEA.out.good HLA.out HCA.out HTA.out) X (HN.out X h) (HO.out X h))
  have GD2 := xh (fun (X : World) (h : Below W3.heap.size W3 X) => yy36 HTS.out (some ⟨gt, 0, none⟩) 1 (some ⟨gt + 1 + 1, 0, none⟩) 1 [edE 1 B cb b] (by simp [maxLen]) (fun y hy => by rw [List.mem_singleton.1 hy]; exact act_ok HEB.out.good HLB.out HCB.out HTB.out) X (HN.out X h) (HW.out X h))
  simp only [yy40, List.length_cons, List.length_nil, Nat.zero_add] at GD1 GD2
  rw [yy68 ea] at GD1
  simp only [yy40] at GD1
  obtain ⟨⟨Y, py, uy⟩, HVY⟩ : ∃ r, Hid (doAllV (yy24 s) [edE 1 B cb b] = r) := ⟨_, xh rfl⟩
  rw [HVY.out] at GD2 HNB
  clear HVY
  simp only at GD2 HNB
  have hun : (uy != 0) = true := by simpa using HNB.out
  clear ea
  go_wp2_with fail
  refine (GD1.out _ HD.out).mono ?_
  rintro e x4 ⟨⟨AX, cAX, rfl, hx⟩, hb⟩
  replace HB := xh (HB.out.trans (hb.mono HB.out.size))
  replace HD := xh (HD.out.trans (hb.mono HD.out.size))
  have HX := xh hx
  clear hx
  clear hb
  go_wp2_with fail
  refine (GD2.out _ HD.out).mono ?_
  rintro e x5 ⟨⟨AY, cAY, rfl, hy⟩, hb⟩
  replace HB := xh (HB.out.trans (hb.mono HB.out.size))
  replace HD := xh (HD.out.trans (hb.mono HD.out.size))
  replace HX := xh (HX.out.below hb)
  have HY := xh hy
  clear hy
  clear hb
  go_wp2_with fail
  refine (GW.out _ HB.out).mono ?_
  rintro e x9 ⟨rfl, hb⟩
  replace HB := xh (HB.out.trans (hb.mono HB.out.size))
  clear hb
  go_wp2
  go_ret
  exact ⟨rfl, HB.out⟩
 obtain ⟨vs, hda⟩ := did_of ea
 obtain ⟨vs', hdb⟩ := did_of eb
 obtain rfl := hda.text.uniq hdb.text
 have HTX : Hid (TreeM (yy24 (dTxt s a))) := xh (by
  have := yy54 (T := yy24 s) (l := [edE 1 A ca a]) HTS.out (by rw [yy68 ea])
  rw [yy68 ea] at this
  exact this)
 have HTY : Hid (TreeM (yy24 (dTxt s b))) := xh (by
  have := yy54 (T := yy24 s) (l := [edE 1 B cb b]) HTS.out (by rw [yy68 eb])
  rw [yy68 eb] at this
  exact this)
 have HEA1 := xh ea
 have HEB1 := xh eb
 have HDA := xh hda
 have HDB := xh hdb
 clear ea eb hda hdb
 go_enter Tryd.func4, Tryd.ntmps4
 go_wp2_with fail
 refine (G1.out _ HB.out).mono ?_
 rintro e x1 ⟨rfl, hb⟩
 replace HB := xh (HB.out.trans (hb.mono HB.out.size))
 clear hb
 go_wp2_with fail
 refine (G2.out _ HB.out).mono ?_
 rintro e x2 ⟨rfl, hb⟩
 replace HB := xh (HB.out.trans (hb.mono HB.out.size))
 clear hb
 go_wp2_with fail
 refine (GB.out _).mono ?_
 rintro e x3 ⟨rfl, hb⟩
 replace HB := xh (HB.out.trans (hb.mono HB.out.size))
 clear hb
 obtain ⟨gt, hgt⟩ : ∃ g, g = x3.heap.size := ⟨_, rfl⟩
 have hb1 := (Below.refl x3.heap.size x3).alloc (Nat.le_refl _) (.cells #[.int .i64 1, .int .i64 0, .string { data := #[102] }, .bool false, .string (bstr s)] 44)
 have h1 : yy14 (x3.alloc (.cells #[.int .i64 1, .int .i64 0, .string { data := #[102] }, .bool false, .string (bstr s)] 44)) (some ⟨gt, 0, none⟩) (yy24 s) := yy122 x3 ⟨1, 0, [102], false, s⟩ gt hgt
 have hB1 := HB.out.trans (hb1.mono HB.out.size)
 have hb2 := (Below.refl (x3.alloc (.cells #[.int .i64 1, .int .i64 0, .string { data := #[102] }, .bool false, .string (bstr s)] 44)).heap.size (x3.alloc (.cells #[.int .i64 1, .int .i64 0, .string { data := #[102] }, .bool false, .string (bstr s)] 44))).alloc (Nat.le_refl _) (.cells #[.int .i64 4, .int .i64 1, .int .i64 0, .string { data := #[] }, .bool false, .slice A a.length ca] 46)
 have h2 : ActsAt ((x3.alloc (.cells #[.int .i64 1, .int .i64 0, .string { data := #[102] }, .bool false, .string (bstr s)] 44)).alloc (.cells #[.int .i64 4, .int .i64 1, .int .i64 0, .string { data := #[] }, .bool false, .slice A a.length ca] 46)) (some ⟨gt + 1, 0, none⟩) [edE 1 A ca a] := yy51 (x3.alloc (.cells #[.int .i64 1, .int .i64 0, .string { data := #[102] }, .bool false, .string (bstr s)] 44)) (edE 1 A ca a) (HA.out _ hB1).1 (gt + 1) (by rw [World.size_alloc, hgt])
 have hB2 := hB1.trans (hb2.mono hB1.size)
 have hb3 := (Below.refl ((x3.alloc (.cells #[.int .i64 1, .int .i64 0, .string { data := #[102] }, .bool false, .string (bstr s)] 44)).alloc (.cells #[.int .i64 4, .int .i64 1, .int .i64 0, .string { data := #[] }, .bool false, .slice A a.length ca] 46)).heap.size ((x3.alloc (.cells #[.int .i64 1, .int .i64 0, .string { data := #[102] }, .bool false, .string (bstr s)] 44)).alloc (.cells #[.int .i64 4, .int .i64 1, .int .i64 0, .string { data := #[] }, .bool false, .slice A a.length ca] 46))).alloc (Nat.le_refl _) (.cells #[.int .i64 4, .int .i64 1, .int .i64 0, .string { data := #[] }, .bool false, .slice B b.length cb] 46)
 have h3 : ActsAt (((x3.alloc (.cells #[.int .i64 1, .int .i64 0, .string { data := #[102] }, .bool false, .string (bstr s)] 44)).alloc (.cells #[.int .i64 4, .int .i64 1, .int .i64 0, .string { data := #[] }, .bool false, .slice A a.length ca] 46)).alloc (.cells #[.int .i64 4, .int .i64 1, .int .i64 0, .string { data := #[] }, .bool false, .slice B b.length cb] 46)) (some ⟨gt + 1 + 1, 0, none⟩) [edE 1 B cb b] := yy51 ((x3.alloc (.cells #[.int .i64 1, .int .i64 0, .string { data := #[102] }, .bool false, .string (bstr s)] 44)).alloc (.cells #[.int .i64 4, .int .i64 1, .int .i64 0, .string { data := #[] }, .bool false, .slice A a.length ca] 46)) (edE 1 B cb b) (HBC.out _ hB2).1 (gt + 1 + 1) (by rw [World.size_alloc, World.size_alloc, hgt])
 have HB3 := xh (hB2.trans (hb3.mono hB2.size))
 have h2' := h2.below hb3
 have h1' := (h1.below hb2).below hb3
 have HGT := xh hgt
 clear hgt h1 h2 hb1 hb2 hb3 hB1 hB2 HB
 obtain ⟨W3, HW3⟩ : ∃ x, Hid ((((x3.alloc (.cells #[.int .i64 1, .int .i64 0, .string { data := #[102] }, .bool false, .string (bstr s)] 44)).alloc (.cells #[.int .i64 4, .int .i64 1, .int .i64 0, .string { data := #[] }, .bool false, .slice A a.length ca] 46)).alloc (.cells #[.int .i64 4, .int .i64 1, .int .i64 0, .string { data := #[] }, .bool false, .slice B b.length cb] 46)) = x) := ⟨_, xh rfl⟩
 rw [HW3.out] at h1' h2' h3 HB3
 go_upto_region 5 with fail
 rw [← HGT.out, HW3.out]
 clear HGT HW3
 have HN := xh (fun (X : World) (h : Below W3.heap.size W3 X) => (⟨h1'.below h, Nat.le_refl _⟩ : NodesC X (some ⟨gt, 0, none⟩) 1 (yy24 s)))
 have HO := xh (fun (X : World) (h : Below W3.heap.size W3 X) => h2'.below h)
 have HW := xh (fun (X : World) (h : Below W3.heap.size W3 X) => h3.below h)
 clear h1' h2' h3
 have HB := HB3
 clear HB3
 have HD := xh (Below.refl W3.heap.size W3)
 have GD1 := xh (fun (X : World) (h : Below W3.heap.size W3 X) => yy36 HTS.out (some ⟨gt, 0, none⟩) 1 (some ⟨gt + 1, 0, none⟩) 1 [edE 1 A ca a] (by simp [maxLen]) (fun y hy => by rw [List.mem_singleton.1 hy]; exact act_ok HEA.out.good HLA.out HCA.out HTA.out) X (HN.out X h) (HO.out X h))
 have GD2 := xh (fun (X : World) (h : Below W3.heap.size W3 X) => yy36 HTS.out (some ⟨gt, 0, none⟩) 1 (some ⟨gt + 1 + 1, 0, none⟩) 1 [edE 1 B cb b] (by simp [maxLen]) (fun y hy => by rw [List.mem_singleton.1 hy]; exact act_ok HEB.out.good HLB.out HCB.out HTB.out) X (HN.out X h) (HW.out X h))
 simp only [yy40, List.length_cons, List.length_nil, Nat.zero_add] at GD1 GD2
 rw [yy68 HEA1.out] at GD1
 rw [yy68 HEB1.out] at GD2
 simp only [yy40] at GD1 GD2
 go_wp2_with fail
 refine (GD1.out _ HD.out).mono ?_
 rintro e x4 ⟨⟨AX, cAX, rfl, hx⟩, hb⟩
 replace HB := xh (HB.out.trans (hb.mono HB.out.size))
 replace HD := xh (HD.out.trans (hb.mono HD.out.size))
 have HX := xh hx
 clear hx
 clear hb
 go_wp2_with fail
 refine (GD2.out _ HD.out).mono ?_
 rintro e x5 ⟨⟨AY, cAY, rfl, hy⟩, hb⟩
 replace HB := xh (HB.out.trans (hb.mono HB.out.size))
 replace HD := xh (HD.out.trans (hb.mono HD.out.size))
 replace HX := xh (HX.out.below hb)
 clear hy
 clear hb
 clear GD1
 have GOF := xh (fun (X : World) (h : Below W3.heap.size W3 X) => yy124 (some ⟨gt + 1, 0, none⟩) 1 [edE 1 A ca a] (by simp) (by simp) (fun y hy => by rw [List.mem_singleton.1 hy]; exact (edE_b (by omega) A HEA.out HTA.out HLA.out HCA.out).1) X (HO.out X h))
 rw [yy886] at GOF
 simp only [List.length_cons, List.length_nil, Nat.zero_add] at GOF
 go_wp2_with fail
 refine (GOF.out _ HD.out).mono ?_
 rintro e x6 ⟨⟨v, rfl, A4, c4, L, rfl, hat, hk, hgd, hc4⟩, hb⟩
 replace HB := xh (HB.out.trans (hb.mono HB.out.size))
 replace HD := xh (HD.out.trans (hb.mono HD.out.size))
 replace HX := xh (HX.out.below hb)
 clear hb
 have HKH : Hid (L.length ≤ 1048576 ∧ ∀ y ∈ L, y.Good ∧ KeyH y.k) := xh ⟨by have := congrArg List.length hk; simp at this; omega, fun y hy => ⟨hgd y hy, by
  have hm : y.k ∈ L.map (·.k) := List.mem_map.2 ⟨y, hy, rfl⟩
  rw [hk, List.mem_singleton] at hm
  rw [hm]
  exact ⟨HEA.out, Nat.zero_le _⟩⟩⟩
 have GV := xh (yy99 (some ⟨gt + 1 + 1, 0, none⟩) 1 [edE 1 B cb b] (by simp) (by simp) (fun y hy => by rw [List.mem_singleton.1 hy]; exact edE_b (by omega) B HEB.out HTB.out HLB.out HCB.out) A4 c4 L HKH.out.1 hc4 HKH.out.2 x6 (HW.out x6 HD.out) hat (HCF.out x6 HB.out))
 rw [hk] at GV
 simp only [List.length_cons, List.length_nil, Nat.zero_add] at GV
 clear hat hk hgd hc4 GOF
 have hib : inS b = vs.length := HDB.out.base
 have HCKB := xh (yy156 HEB1.out).1
 by_cases h0 : a = []
 ·subst h0
  obtain ⟨e1, e2, e3⟩ := yy841 HDA.out
  have hRB := yy834 (id := 1) (by omega) (by omega) (B := B) (d := cb) HCKB.out
  have HLF : Hid (yy284 [edE 1 B cb b] [⟨1, [], true, false, false, false, 0, []⟩] = [⟨1, [], true, false, false, false, 0, []⟩]) := xh (by
   rw [yy218 (by rw [hRB])]
   unfold overK yy265
   rw [List.map_singleton, List.foldl_cons, List.foldl_nil]
   unfold yy72
   rw [if_neg (fun h => h.2.1 rfl)])
  rw [hRB, HLF.out] at GV
  have HDO : Hid (doAllV (yy24 (dTxt s [])) [edE 1 B cb b] = (yy24 (dTxt (dTxt s []) b), 1, 0)) := xh (yy68 (by
   rw [e2]
   have := HEB1.out
   rw [e1] at this
   exact this))
  clear hRB e1 e2 e3 HLF
  go_wp2_with fail
  refine (GV.out).mono ?_
  rintro e x7 ⟨⟨A5, c5, o5, v5, V5, rfl, ho, hk5, hef⟩, hb⟩
  replace HB := xh (HB.out.trans (hb.mono HB.out.size))
  replace HD := xh (HD.out.trans (hb.mono HD.out.size))
  replace HX := xh (HX.out.below hb)
  obtain ⟨y, rfl, hky⟩ := yy100 hk5
  have HYB := xh (ho.made y (List.mem_singleton.2 rfl)).1
  have HOO := xh ho.acts
  obtain ⟨A6, c6, L6, rfl, hat6, hk6, hg6, hc6⟩ := hef
  have hl6 : L6.length = 1 := by have := congrArg List.length hk6; simpa using this
  obtain ⟨z, rfl⟩ : ∃ z, L6 = [z] := List.length_eq_one_iff.1 hl6
  have hkz : z.k = ⟨1, [], true, false, false, false, 0, []⟩ := by simpa using hk6
  have HEF := xh hat6
  have HGZ := xh (hg6 z (List.mem_singleton.2 rfl))
  clear hb ho hk5 hat6 hk6 hg6 hc6 hl6 GV
  simp only [List.length_cons, List.length_nil, Nat.zero_add]
  have GDX := xh (fun (X : World) (h1 : NodesC X AX cAX (yy24 (dTxt s []))) (h2 : ActsAt X A5 [y]) => yy36 HTX.out AX cAX A5 c5 [y] (by simp [maxLen]) (fun z hz => by rw [List.mem_singleton.1 hz]; exact HYB.out.ok) X h1 h2)
  rw [yy411 _ (show [y].map aKey = [edE 1 B cb b].map aKey by simp [hky]), HDO.out] at GDX
  simp only [yy40, List.length_cons, List.length_nil, Nat.zero_add] at GDX
  go_wp2_with fail
  refine (GDX.out _ HX.out HOO.out).mono ?_
  rintro e x11 ⟨⟨AU, cAU, rfl, hu⟩, hb⟩
  replace HB := xh (HB.out.trans (hb.mono HB.out.size))
  replace HD := xh (HD.out.trans (hb.mono HD.out.size))
  replace HEF := xh (HEF.out.below hb)
  have HU := xh hu
  clear hb hu GDX
  go_wp2_with fail
  refine (GD2.out _ HD.out).mono ?_
  rintro e x8 ⟨⟨AY, cAY, rfl, hy⟩, hb⟩
  replace HB := xh (HB.out.trans (hb.mono HB.out.size))
  clear hb hy
  go_wp2_with fail
  refine (GW.out _ HB.out).mono ?_
  rintro e x9 ⟨rfl, hb⟩
  replace HB := xh (HB.out.trans (hb.mono HB.out.size))
  clear hb
  go_wp2
  go_ret
  exact ⟨rfl, HB.out⟩
 have HM2 := xh (yy840 (b := b) HDA.out (ok_of HCKB.out) hib)
 obtain ⟨P, Q, o1, o2, o3, o4, o5', o6⟩ := HM2.out
 have hRB := yy887 (id := 1) (by omega) (by omega) (B := B) (d := cb) HCKB.out h0 o1
 have HO2 := xh o2
 have HO5 := xh o5'
 have HO6 := xh (o6 HDB.out)
 have HH0 := xh h0
 rcases o3 with o3 | o3
 rotate_left
 ·rw [hRB, if_neg (by omega), o3] at GV
  clear HM2 o1 o2 o3 o4 o5' o6 hRB HO5 HO6 h0
  go_wp2_with fail
  refine (GV.out).mono ?_
  rintro e x7 ⟨⟨A5, c5, o5, v5, V5, rfl, ho, hk5, hef⟩, hb⟩
  replace HB := xh (HB.out.trans (hb.mono HB.out.size))
  clear hb ho hk5 hef GV
  go_wp2_with fail
  refine (GW.out _ HB.out).mono ?_
  rintro e x9 ⟨rfl, hb⟩
  replace HB := xh (HB.out.trans (hb.mono HB.out.size))
  clear hb
  go_wp2
  go_ret
  exact ⟨rfl, HB.out⟩
 have HLF : Hid (yy284 [edE 1 B cb b] [⟨1, a, true, false, false, false, 0, []⟩] = [⟨1, Q, true, false, false, false, 0, []⟩]) := xh (by
  rw [yy218 (by rw [hRB, if_pos o3]), yy567 o2 h0])
 rw [hRB, if_pos o3, HLF.out] at GV
 have HDO : Hid (doAllV (yy24 (dTxt s a)) [edE 1 B cb P] = (yy24 (dTxt (dTxt s a) P), 1, 0)) := xh (yy68 (HO5.out o3))
 have HO7 := xh (HO6.out o3)
 have HTQ : Hid (tlen Q ≤ 4000) := xh (by
  have := yy393 true a b
  rw [o2] at this
  exact Nat.le_trans this HTA.out)
 clear HM2 o1 o2 o3 o4 o5' o6 hRB HO5 HO6 h0 HLF
 go_wp2_with fail
 refine (GV.out).mono ?_
 rintro e x7 ⟨⟨A5, c5, o5, v5, V5, rfl, ho, hk5, hef⟩, hb⟩
 replace HB := xh (HB.out.trans (hb.mono HB.out.size))
 replace HD := xh (HD.out.trans (hb.mono HD.out.size))
 replace HX := xh (HX.out.below hb)
 obtain ⟨y, rfl, hky⟩ := yy100 hk5
 have HYB := xh (ho.made y (List.mem_singleton.2 rfl)).1
 have HOO := xh ho.acts
 obtain ⟨A6, c6, L6, rfl, hat6, hk6, hg6, hc6⟩ := hef
 have hl6 : L6.length = 1 := by have := congrArg List.length hk6; simpa using this
 obtain ⟨z, rfl⟩ : ∃ z, L6 = [z] := List.length_eq_one_iff.1 hl6
 have hkz : z.k = ⟨1, Q, true, false, false, false, 0, []⟩ := by simpa using hk6
 have HEF := xh hat6
 have HGZ := xh (hg6 z (List.mem_singleton.2 rfl))
 clear hb ho hk5 hat6 hk6 hg6 hc6 hl6 GV
 simp only [List.length_cons, List.length_nil, Nat.zero_add]
 have GDX := xh (fun (X : World) (h1 : NodesC X AX cAX (yy24 (dTxt s a))) (h2 : ActsAt X A5 [y]) => yy36 HTX.out AX cAX A5 c5 [y] (by simp [maxLen]) (fun z hz => by rw [List.mem_singleton.1 hz]; exact HYB.out.ok) X h1 h2)
 rw [yy411 _ (show [y].map aKey = [edE 1 B cb P].map aKey by simp [hky]), HDO.out] at GDX
 simp only [yy40, List.length_cons, List.length_nil, Nat.zero_add] at GDX
 go_wp2_with fail
 refine (GDX.out _ HX.out HOO.out).mono ?_
 rintro e x11 ⟨⟨AU, cAU, rfl, hu⟩, hb⟩
 replace HB := xh (HB.out.trans (hb.mono HB.out.size))
 replace HD := xh (HD.out.trans (hb.mono HD.out.size))
 replace HEF := xh (HEF.out.below hb)
 have HU := xh hu
 clear hb hu GDX
 go_wp2_with fail
 refine (GD2.out _ HD.out).mono ?_
 rintro e x8 ⟨⟨AY, cAY, rfl, hy⟩, hb⟩
 replace HB := xh (HB.out.trans (hb.mono HB.out.size))
 replace HU := xh (HU.out.below hb)
 replace HEF := xh (HEF.out.below hb)
 have HY := xh hy
 clear hb hy GD2
 obtain ⟨kz, zA, zC⟩ := z
 obtain rfl : kz = ⟨1, Q, true, false, false, false, 0, []⟩ := hkz
 obtain ⟨b6, of6, rfl, _⟩ := HEF.out.form (by simp)
 have z1 := (HEF.out.at_ (i := 0) (by simp)).2.1
 simp only [List.getElem_cons_zero, Nat.zero_mul, Nat.add_zero] at z1
 have hal : ((a.length : Int) == 0) = false := xn (by
  have : a.length ≠ 0 := fun h => HH0.out (List.length_eq_zero_iff.1 h)
  omega)
 have HZQ := xh (HEF.out.2 _ (List.mem_singleton.2 rfl))
 have GDL := xh (fun (X : World) (h1 : NodesC X AY cAY (yy24 (dTxt s b))) (h2 : yy7 X zA Q) (g : Nat) (hg : g = X.heap.size) => (show Calls Tryd.prog 13 _ (X.alloc (.cells #[.int .i64 4, .int .i64 1, .int .i64 0, .string { data := #[] }, .bool false, .slice zA Q.length zC] 46)) _ from yy36 HTY.out AY cAY (some ⟨g, 0, none⟩) 1 [edE 1 zA zC Q] (by simp [maxLen]) (fun z hz => by rw [List.mem_singleton.1 hz]; exact act_ok HGZ.out.2.2.2.1 HGZ.out.2.2.2.2.1 HGZ.out.2.2.2.2.2 HTQ.out) _ (h1.below ((Below.refl _ _).alloc (Nat.le_refl _) _)) (yy51 X (edE 1 zA zC Q) h2 g hg)))
 simp only [yy40, List.length_cons, List.length_nil, Nat.zero_add] at GDL
 by_cases hq : dErr (dTxt s b) Q = 0
 ·rw [yy68 hq, HO7.out hq] at GDL
  simp only [yy40] at GDL
  clear hq
  go_wp2_with fail
  refine (GDL.out _ HY.out HZQ.out _ rfl).mono ?_
  rintro e x10 ⟨⟨AZ, cAZ, rfl, hz⟩, hb⟩
  have hbz := ((Below.refl x8.heap.size x8).alloc (Nat.le_refl _) (.cells #[.int .i64 4, .int .i64 1, .int .i64 0, .string { data := #[] }, .bool false, .slice zA Q.length zC] 46)).trans (hb.mono (by simp))
  replace HB := xh (HB.out.trans (hbz.mono HB.out.size))
  replace HU := xh (HU.out.below hbz)
  have HZ := xh hz
  clear hb hz hbz z1 GDL
  generalize dTxt (dTxt s a) P = t at HU HZ
  obtain ⟨bu, ou, rfl, _⟩ := HU.out.1.form (by simp [yy24])
  obtain ⟨bz, oz, rfl, _⟩ := HZ.out.1.form (by simp [yy24])
  have HU4 : Hid (x10.cell? ⟨bu, ou + 4, none⟩ = some (.string (bstr t))) := xh (by
   have q := (HU.out.1.at_ (i := 0) (by simp [yy24])).2.2.2.2
   simpa [yy24] using q)
  have HZ4 : Hid (x10.cell? ⟨bz, oz + 4, none⟩ = some (.string (bstr t))) := xh (by
   have q := (HZ.out.1.at_ (i := 0) (by simp [yy24])).2.2.2.2
   simpa [yy24] using q)
  have heq : ((bstr t).toList == (bstr t).toList) = true := by simp
  go_upto_region 19 with fail
  refine wp_region_lit sc13 (by kernel_rfl) (by kernel_rfl) (fun _ _ d _ _ h => by cases d <;> exact h) ?_
  simp only [picked, sc13, xmc, xmn, xgs, xgz, xgd]
  replace HB := xh HB.out.drew
  have q0 := fun e : Ext x10.drew => Ext.cell (w := x10.drew) HU4.out e
  have q1 := fun e : Ext x10.drew => Ext.cell (w := x10.drew) HZ4.out e
  generalize x10.drew = wd at HB q0 q1 ⊢
  repeat (first | (refine yy0 (by rfl) (fun K hK => ?_); go_big_quiet_op; refine hK _ ?_; clear hK K) | (refine yy2 (by rfl) ?_; simp only [Act.put, xsa, xsz, xss]))
  clear q0 q1
  refine yy4 (by rfl) (fun K hK => ?_)
  go_simp
  refine (GW.out _ HB.out).mono ?_
  rintro e x12 ⟨rfl, hb⟩
  replace HB := xh (HB.out.trans (hb.mono HB.out.size))
  refine hK _ _ hb ?_
  clear hK K hb
  repeat (first | (refine yy0 (by rfl) (fun K hK => ?_); go_big_quiet_op; refine hK _ ?_; clear hK K) | (refine yy2 (by rfl) ?_; simp only [Act.put, xsa, xsz, xss]))
  refine yy13 ?_
  go_wp2
  go_ret
  exact ⟨rfl, HB.out⟩
 ·have HNQ := xh (yy364 (A := zA) (c := zC) hq)
  obtain ⟨⟨X, px, ux⟩, HVX⟩ : ∃ r, Hid (doAllV (yy24 (dTxt s b)) [edE 1 zA zC Q] = r) := ⟨_, xh rfl⟩
  rw [HVX.out] at GDL HNQ
  clear HVX hq
  simp only at GDL HNQ
  have hun : (ux != 0) = true := by simpa using HNQ.out
  go_wp2_with fail
  refine (GDL.out _ HY.out HZQ.out _ rfl).mono ?_
  rintro e x10 ⟨⟨AZ, cAZ, rfl, hz⟩, hb⟩
  have hbz := ((Below.refl x8.heap.size x8).alloc (Nat.le_refl _) (.cells #[.int .i64 4, .int .i64 1, .int .i64 0, .string { data := #[] }, .bool false, .slice zA Q.length zC] 46)).trans (hb.mono (by simp))
  replace HB := xh (HB.out.trans (hbz.mono HB.out.size))
  clear hb hz hbz z1 GDL
  go_upto_region 19 with fail
  refine wp_region_lit sc13 (by kernel_rfl) (by kernel_rfl) (fun _ _ d _ _ h => by cases d <;> exact h) ?_
  simp only [picked, sc13, xmc, xmn, xgs, xgz, xgd]
  replace HB := xh HB.out.drew
  generalize x10.drew = wd at HB ⊢
  repeat (first | (refine yy0 (by rfl) (fun K hK => ?_); go_big_quiet_op; refine hK _ ?_; clear hK K) | (refine yy2 (by rfl) ?_; simp only [Act.put, xsa, xsz, xss]))
  skip
  refine yy4 (by rfl) (fun K hK => ?_)
  go_simp
  refine (GW.out _ HB.out).mono ?_
  rintro e x12 ⟨rfl, hb⟩
  replace HB := xh (HB.out.trans (hb.mono HB.out.size))
  refine hK _ _ hb ?_
  clear hK K hb
  repeat (first | (refine yy0 (by rfl) (fun K hK => ?_); go_big_quiet_op; refine hK _ ?_; clear hK K) | (refine yy2 (by rfl) ?_; simp only [Act.put, xsa, xsz, xss]))
  refine yy13 ?_
  go_wp2
  go_ret
  exact ⟨rfl, HB.out⟩
end Go.Proofs.YtjpjdkdbgjipnaaDoor
