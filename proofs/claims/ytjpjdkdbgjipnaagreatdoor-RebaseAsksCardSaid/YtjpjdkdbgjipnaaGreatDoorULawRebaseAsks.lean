/- Of any transaction, behind anything that was done, what becomes of it, what is left, and why it is refused, are as the document says; behind any row of commits, too: RebaseAsks answers true and changes nothing. Condition: the table of conflicts holds what the program's text lays. -/
import Derived.Test.YtjpjdkdbgjipnaaGreatDoorU39
import Derived.Test.YtjpjdkdbgjipnaaGreatDoorU40
import Derived.Test.YtjpjdkdbgjipnaaGreatDoorU45
import Derived.Test.YtjpjdkdbgjipnaaGreatDoorU41
import Derived.Test.YtjpjdkdbgjipnaaGreatDoorU43
import Derived.Test.YtjpjdkdbgjipnaaGreatDoorU44
namespace Go.Proofs.YtjpjdkdbgjipnaaGreatDoor
open Go.RowKit Go.Deep
set_option maxHeartbeats 16000000 in
set_option maxRecDepth 100000 in
theorem yy292 (A : Option Addr) (l : List ActV) (c : Nat) (B : Option Addr) (bs : List OneV) (d : Nat) (a : ActV) (C : Option Addr) (cs : List CommitV) (m : Nat) (hl : l.length ≤ maxLen) (hg : ∀ y ∈ l, y.Good) (hbl : bs.length ≤ maxLen) (hbg : ∀ y ∈ bs, y.Good) (hga : a.Good) (hcl : cs.length ≤ maxLen) (hcg : ∀ y ∈ cs, y.Good) (w : World) (hA : ActsAt w A l ∧ l.length ≤ c) (hB : OnesAt w B bs ∧ bs.length ≤ d) (hAa : yy8 w a.opsA a.ops) (hM : yy52 w C cs ∧ cs.length ≤ m) (hC : ConfAt w) :
  Calls Tryz.prog 3 #[.slice A l.length c, .slice B bs.length d, .agg (yy0 a).toArray, .slice C cs.length m] w fun e w' => e = .returned (.bool true) ∧ Below w.heap.size w w' := by
 obtain ⟨ak, ai, ap, an, ad, aA, aC, ao⟩ := a
 unfold yy0
 simp only at hAa ⊢
 obtain ⟨g, hgg⟩ : ∃ g, g = w.heap.size := ⟨_, rfl⟩
 have hb1 : Below w.heap.size w (w.alloc (.cells #[.int .i64 ak, .int .i64 ai, .int .i64 ap, .string (bstr an), .bool ad, .slice aA ao.length aC] 26)) := (Below.refl _ _).alloc (Nat.le_refl _) _
 have hr6 := yy53 w 26 (.int .i64 ak) (.int .i64 ai) (.int .i64 ap) (.string (bstr an)) (.bool ad) (.slice aA ao.length aC)
 obtain ⟨W1, HW1⟩ : ∃ x, Hid (w.alloc (.cells #[.int .i64 ak, .int .i64 ai, .int .i64 ap, .string (bstr an), .bool ad, .slice aA ao.length aC] 26) = x) := ⟨_, Lib.hid rfl⟩
 rw [HW1.out] at hb1 hr6
 rw [← hgg] at hb1 hr6 ⊢
 have HBF := Lib.hid (fun (X : World) (h : Below W1.heap.size W1 X) => hb1.trans (h.mono (by have := hb1.size; omega)))
 have HBOX := Lib.hid (fun (X : World) (h : Below W1.heap.size W1 X) => yy10 (hr6.of_block (h.block _ hr6.lt)))
 have HA := Lib.hid (fun (X : World) (h : Below W1.heap.size W1 X) => hA.1.below (hgg ▸ HBF.out X h))
 have HBS := Lib.hid (fun (X : World) (h : Below W1.heap.size W1 X) => hB.1.below (hgg ▸ HBF.out X h))
 have HM := Lib.hid (fun (X : World) (h : Below W1.heap.size W1 X) => hM.1.below (hgg ▸ HBF.out X h))
 have HCF := Lib.hid (fun (X : World) (h : Below W1.heap.size W1 X) => hC.below (hgg ▸ HBF.out X h))
 have HAA := Lib.hid (fun (X : World) (h : Below W1.heap.size W1 X) => yy8.below hAa (hgg ▸ HBF.out X h))
 have GW := Lib.hid (fun (X : World) (h : Below W1.heap.size W1 X) => yy567 X (HCF.out X h))
 have G1 := Lib.hid (fun (X : World) (h : Below W1.heap.size W1 X) => yy132 3000 c hl hg X (HA.out X h))
 have G2 := Lib.hid (fun (X : World) (h : Below W1.heap.size W1 X) => yy480 d hbl hbg X (HBS.out X h))
 have G3 := Lib.hid (fun (X : World) (h : Below W1.heap.size W1 X) (gx : Nat) (hgx : gx = X.heap.size) => (show Calls Tryz.prog 4 #[.slice (some ⟨gx, 0, none⟩) 1 1, .int .i64 1000] (X.alloc (.cells #[.int .i64 ak, .int .i64 ai, .int .i64 ap, .string (bstr an), .bool ad, .slice aA ao.length aC] 26)) _ from yy132 (A := some ⟨gx, 0, none⟩) (l := [⟨ak, ai, ap, an, ad, aA, aC, ao⟩]) 1000 1 (by simp [maxLen]) (fun y hy => by rw [List.mem_singleton.1 hy]; exact hga) _ (yy428 X ⟨ak, ai, ap, an, ad, aA, aC, ao⟩ (HAA.out X h) gx hgx)))
 have G4 := Lib.hid (fun (X : World) (h : Below W1.heap.size W1 X) => yy479 3000 (by omega) C m cs hcl hcg X (HM.out X h))
 have HLC := Lib.hid hA.2
 have HLD := Lib.hid hB.2
 have HGG := Lib.hid hgg
 clear hA hB hM hC hAa hgg hb1 hr6
 obtain ⟨T1, HT1⟩ : ∃ x, Hid (yy34 3000 l = x) := ⟨_, Lib.hid rfl⟩
 obtain ⟨T2, HT2⟩ : ∃ x, Hid (smallO bs = x) := ⟨_, Lib.hid rfl⟩
 obtain ⟨T3, HT3⟩ : ∃ x, Hid (yy34 1000 [⟨ak, ai, ap, an, ad, aA, aC, ao⟩] = x) := ⟨_, Lib.hid rfl⟩
 obtain ⟨T4, HT4⟩ : ∃ x, Hid (yy162 3000 cs = x) := ⟨_, Lib.hid rfl⟩
 rw [HT1.out] at G1
 rw [HT2.out] at G2
 rw [HT3.out] at G3
 rw [HT4.out] at G4
 by_cases g1 : 3000 < T1
 ·clear hg hbg hcg hga
  go_enter Tryz.func3, Tryz.ntmps3
  go_upto_region 1 with fail
  rw [← HGG.out, HW1.out]
  have HD := Lib.hid (Below.refl W1.heap.size W1)
  go_wp2_with fail
  refine (G1.out _ HD.out).mono ?_
  rintro e x1 ⟨rfl, hb⟩
  replace HD := Lib.hid (HD.out.trans (hb.mono HD.out.size))
  clear hb
  go_wp2_with fail
  refine (GW.out _ HD.out).mono ?_
  rintro e x9 ⟨rfl, hb⟩
  replace HD := Lib.hid (HD.out.trans (hb.mono HD.out.size))
  clear hb
  go_wp2
  go_ret
  exact ⟨rfl, HBF.out _ HD.out⟩
 obtain ⟨hl1, hab⟩ := acts_b (lim := 3000) (by omega) hg (by rw [HT1.out]; omega)
 have hi1 : ¬ (3000 : Int) < (T1 : Int) := by omega
 cases T2 with
 | false =>
  clear hg hbg hcg hga hab
  go_enter Tryz.func3, Tryz.ntmps3
  go_upto_region 1 with fail
  rw [← HGG.out, HW1.out]
  have HD := Lib.hid (Below.refl W1.heap.size W1)
  go_wp2_with fail
  refine (G1.out _ HD.out).mono ?_
  rintro e x1 ⟨rfl, hb⟩
  replace HD := Lib.hid (HD.out.trans (hb.mono HD.out.size))
  clear hb
  go_wp2_with fail
  refine (G2.out _ HD.out).mono ?_
  rintro e x2 ⟨rfl, hb⟩
  replace HD := Lib.hid (HD.out.trans (hb.mono HD.out.size))
  clear hb
  go_wp2_with fail
  refine (GW.out _ HD.out).mono ?_
  rintro e x9 ⟨rfl, hb⟩
  replace HD := Lib.hid (HD.out.trans (hb.mono HD.out.size))
  clear hb
  go_wp2
  go_ret
  exact ⟨rfl, HBF.out _ HD.out⟩
 | true =>
 obtain ⟨hl2, hbk⟩ := yy588 hbg HT2.out
 by_cases g3 : 1000 < T3
 ·have hi3 : (1000 : Int) < (T3 : Int) := by omega
  clear hg hbg hcg hga hab hbk
  go_enter Tryz.func3, Tryz.ntmps3
  go_upto_region 1 with fail
  rw [← HGG.out, HW1.out]
  have HD := Lib.hid (Below.refl W1.heap.size W1)
  go_wp2_with fail
  refine (G1.out _ HD.out).mono ?_
  rintro e x1 ⟨rfl, hb⟩
  replace HD := Lib.hid (HD.out.trans (hb.mono HD.out.size))
  clear hb
  go_wp2_with fail
  refine (G2.out _ HD.out).mono ?_
  rintro e x2 ⟨rfl, hb⟩
  replace HD := Lib.hid (HD.out.trans (hb.mono HD.out.size))
  clear hb
  obtain ⟨y0, y1, y2, y3, y4, y5⟩ := HBOX.out _ HD.out
  go_wp2_with fail
  refine (G3.out _ HD.out _ rfl).mono ?_
  rintro e x3 ⟨rfl, hb⟩
  have hba := ((Below.refl x2.heap.size x2).alloc (Nat.le_refl _) (.cells #[.int .i64 ak, .int .i64 ai, .int .i64 ap, .string (bstr an), .bool ad, .slice aA ao.length aC] 26)).trans (hb.mono (by simp))
  replace HD := Lib.hid (HD.out.trans (hba.mono HD.out.size))
  clear hb hba y0 y1 y2 y3 y4 y5
  go_wp2_with fail
  refine (GW.out _ HD.out).mono ?_
  rintro e x9 ⟨rfl, hb⟩
  replace HD := Lib.hid (HD.out.trans (hb.mono HD.out.size))
  clear hb
  go_wp2
  go_ret
  exact ⟨rfl, HBF.out _ HD.out⟩
 have hi3 : ¬ (1000 : Int) < (T3 : Int) := by omega
 by_cases g4 : 3000 < T4
 ·clear hg hbg hcg hga hab hbk
  go_enter Tryz.func3, Tryz.ntmps3
  go_upto_region 1 with fail
  rw [← HGG.out, HW1.out]
  have HD := Lib.hid (Below.refl W1.heap.size W1)
  go_wp2_with fail
  refine (G1.out _ HD.out).mono ?_
  rintro e x1 ⟨rfl, hb⟩
  replace HD := Lib.hid (HD.out.trans (hb.mono HD.out.size))
  clear hb
  go_wp2_with fail
  refine (G2.out _ HD.out).mono ?_
  rintro e x2 ⟨rfl, hb⟩
  replace HD := Lib.hid (HD.out.trans (hb.mono HD.out.size))
  clear hb
  obtain ⟨y0, y1, y2, y3, y4, y5⟩ := HBOX.out _ HD.out
  go_wp2_with fail
  refine (G3.out _ HD.out _ rfl).mono ?_
  rintro e x3 ⟨rfl, hb⟩
  have hba := ((Below.refl x2.heap.size x2).alloc (Nat.le_refl _) (.cells #[.int .i64 ak, .int .i64 ai, .int .i64 ap, .string (bstr an), .bool ad, .slice aA ao.length aC] 26)).trans (hb.mono (by simp))
  replace HD := Lib.hid (HD.out.trans (hba.mono HD.out.size))
  clear hb hba y0 y1 y2 y3 y4 y5
  go_wp2_with fail
  refine (G4.out _ HD.out).mono ?_
  rintro e x4 ⟨rfl, hb⟩
  replace HD := Lib.hid (HD.out.trans (hb.mono HD.out.size))
  clear hb
  go_wp2_with fail
  refine (GW.out _ HD.out).mono ?_
  rintro e x9 ⟨rfl, hb⟩
  replace HD := Lib.hid (HD.out.trans (hb.mono HD.out.size))
  clear hb
  go_wp2
  go_ret
  exact ⟨rfl, HBF.out _ HD.out⟩
 obtain ⟨hl4, hcw⟩ := yy629 (lim := 3000) (by omega) (l := cs) (by rw [HT4.out]; omega)
 have HCB : Hid (∀ y ∈ cs, ComB y) := Lib.hid (fun y hy => by
  obtain ⟨h1, h2⟩ := acts_b (lim := 3000) (by omega) (hcg y hy).2.2.2.1 (hcw y hy)
  exact ⟨h2, by omega, (hcg y hy).2.2.2.2.1⟩)
 have hi4 : ¬ (3000 : Int) < (T4 : Int) := by omega
 have HAB := Lib.hid hab
 have HBG := Lib.hid (fun y hy => And.intro (hbg y hy) (hbk y hy))
 have HNM := Lib.hid hga.2.2.2.1
 have hl1' : l.length ≤ 1048576 := by omega
 have hl2' : bs.length ≤ 1048576 := by omega
 have hl4' : cs.length ≤ 1048576 := by omega
 clear hg hbg hcg hga hab hbk hcw
 obtain ⟨ks, HKS⟩ : ∃ q, Hid (bs.map (·.k) = q) := ⟨_, Lib.hid rfl⟩
 have GMD := Lib.hid (fun (X : World) (h : Below W1.heap.size W1 X) => yy717 B d bs hl2' X (HBS.out X h))
 have GV := Lib.hid (fun (X : World) (h : Below W1.heap.size W1 X) (A4 : Option Addr) (c4 : Nat) (ho : OnesAt X A4 bs) (hc : bs.length ≤ c4) => yy235 A c l hl1' HLC.out HAB.out A4 c4 bs hl2' hc HBG.out X (HA.out X h) ho (HCF.out X h))
 have GRV := Lib.hid (fun (X : World) (h : Below W1.heap.size W1 X) => yy236 A c l hl1' HAB.out B d bs hl2' HBG.out X (HA.out X h) (HBS.out X h))
 have GB := Lib.hid (fun (X : World) (h : Below W1.heap.size W1 X) => yy388 A c l hl1' HAB.out C m cs hl4' HCB.out X (HA.out X h) (HM.out X h) (HCF.out X h))
 have GRB := Lib.hid (fun (X : World) (h : Below W1.heap.size W1 X) => yy290 A c l hl1' HAB.out C m cs hl4' HCB.out X (HA.out X h) (HM.out X h))
 have GY := Lib.hid (fun (X : World) (h : Below W1.heap.size W1 X) (A4 : Option Addr) (c4 : Nat) (ho : OnesAt X A4 bs) => (show Calls Tryz.prog 16 #[.agg #[.int .i64 ak, .int .i64 ai, .int .i64 ap, .string (bstr an), .bool ad, .slice aA ao.length aC], .slice A4 bs.length c4] X _ from yy534 A4 c4 bs ⟨ak, ai, ap, an, ad, aA, aC, ao⟩ hl2' HBG.out HNM.out X ho (HCF.out X h)))
 have GRY := Lib.hid (fun (X : World) (h : Below W1.heap.size W1 X) => (show Calls Tryz.prog 17 #[.agg #[.int .i64 ak, .int .i64 ai, .int .i64 ap, .string (bstr an), .bool ad, .slice aA ao.length aC], .slice B bs.length d] X _ from yy333 B d bs ⟨ak, ai, ap, an, ad, aA, aC, ao⟩ hbl (fun y hy => (HBG.out y hy).1) HNM.out X (HBS.out X h)))
 rw [HKS.out] at GV GRV GY GRY
 have GSA := Lib.hid (fun (X : World) (A1 A2 : Option Addr) (c1 c2 : Nat) (o1 o2 : List ActV) (h1 : ActsAt X A1 o1) (h2 : ActsAt X A2 o2) (hg1 : ∀ y ∈ o1, ActB y) (hg2 : ∀ y ∈ o2, ActB y) (hk : o1.map aKey = o2.map aKey) (hn1 : o1.length ≤ maxLen) (hn2 : o2.length ≤ maxLen) => by
  have q := yy243 A1 A2 c1 c2 o1 o2 hn1 hn2 (fun y hy => (hg1 y hy).1.1) (fun y hy => (hg2 y hy).1.1) X h1 h2
  rw [yy310 hk] at q
  exact q)
 have HLK : Hid ((yy106 l ks).length ≤ bs.length) := Lib.hid (by rw [← HKS.out]; unfold yy106; split <;> simp [overK])
 generalize rRb l ks = R at GV GRV
 generalize yy106 l ks = K at GV GRV HLK
 generalize yy58 l (cs.map (·.acts)) = U at GB GRB
 generalize rWhy ⟨ak, ai, ap, an, ad, aA, aC, ao⟩ ks = wy at GY GRY
 obtain ⟨R1, R2⟩ := R
 obtain ⟨U1, U2⟩ := U
 simp only at GV GRV GB GRB
 go_enter Tryz.func3, Tryz.ntmps3
 go_upto_region 1 with fail
 rw [← HGG.out, HW1.out]
 have HD := Lib.hid (Below.refl W1.heap.size W1)
 go_wp2_with fail
 refine (G1.out _ HD.out).mono ?_
 rintro e x1 ⟨rfl, hb⟩
 replace HD := Lib.hid (HD.out.trans (hb.mono HD.out.size))
 clear hb
 go_wp2_with fail
 refine (G2.out _ HD.out).mono ?_
 rintro e x2 ⟨rfl, hb⟩
 replace HD := Lib.hid (HD.out.trans (hb.mono HD.out.size))
 clear hb
 obtain ⟨y0, y1, y2, y3, y4, y5⟩ := HBOX.out _ HD.out
 go_wp2_with fail
 refine (G3.out _ HD.out _ rfl).mono ?_
 rintro e x3 ⟨rfl, hb⟩
 have hba := ((Below.refl x2.heap.size x2).alloc (Nat.le_refl _) (.cells #[.int .i64 ak, .int .i64 ai, .int .i64 ap, .string (bstr an), .bool ad, .slice aA ao.length aC] 26)).trans (hb.mono (by simp))
 replace HD := Lib.hid (HD.out.trans (hba.mono HD.out.size))
 clear hb hba y0 y1 y2 y3 y4 y5
 go_wp2_with fail
 refine (G4.out _ HD.out).mono ?_
 rintro e x4 ⟨rfl, hb⟩
 replace HD := Lib.hid (HD.out.trans (hb.mono HD.out.size))
 clear hb
 clear G1 G2 G3 G4
 go_wp2_with fail
 refine (GMD.out _ HD.out).mono ?_
 rintro e x5 ⟨⟨A4, c4, rfl, hm1, hm2⟩, hb⟩
 replace HD := Lib.hid (HD.out.trans (hb.mono HD.out.size))
 have HM1 := Lib.hid hm1
 have HM2 := Lib.hid hm2
 clear hm1 hm2
 clear hb
 go_wp2_with fail
 refine (GV.out _ HD.out A4 c4 HM1.out HM2.out).mono ?_
 rintro e x6 ⟨⟨A5, c5, o5, v5, V5, rfl, ho5, hk5, A6, c6, L6, rfl, hat6, hkl6, hg6, hc6⟩, hb⟩
 replace HD := Lib.hid (HD.out.trans (hb.mono HD.out.size))
 have HO5 := Lib.hid ho5.acts
 have HG5 : Hid (∀ y ∈ o5, ActB y) := Lib.hid (fun y hy => (ho5.made y hy).1)
 have HL5 := Lib.hid (yy400 ho5.own)
 have HK5 := Lib.hid hk5
 have HE6 := Lib.hid hat6
 have HK6 := Lib.hid hkl6
 have HG6 := Lib.hid hg6
 have HL6 : Hid (L6.length ≤ 1048576) := Lib.hid (by
  have q := HLK.out
  rw [← hkl6, List.length_map] at q
  exact Nat.le_trans q hl2')
 clear ho5 hk5 hat6 hkl6 hg6 hc6 GV HM1 HM2
 clear hb
 go_wp2_with fail
 refine (GRV.out _ HD.out).mono ?_
 rintro e x7 ⟨⟨A7, c7, o7, A8, c8, L8, rfl, ho7, hg7, hk7, hat8, hk8, hg8⟩, hb⟩
 replace HD := Lib.hid (HD.out.trans (hb.mono HD.out.size))
 replace HO5 := Lib.hid (HO5.out.below hb)
 replace HE6 := Lib.hid (HE6.out.below hb)
 have HO7 := Lib.hid ho7
 have HG7 := Lib.hid hg7
 have HK7 := Lib.hid hk7
 have HE8 := Lib.hid hat8
 have HK8 := Lib.hid hk8
 have HG8 := Lib.hid hg8
 clear ho7 hg7 hk7 hat8 hk8 hg8 GRV
 clear hb
 go_wp2_with fail
 refine (GB.out _ HD.out).mono ?_
 rintro e x8 ⟨⟨A9, c9, o9, V9, rfl, ho9, hk9⟩, hb⟩
 replace HD := Lib.hid (HD.out.trans (hb.mono HD.out.size))
 replace HO5 := Lib.hid (HO5.out.below hb)
 replace HE6 := Lib.hid (HE6.out.below hb)
 replace HO7 := Lib.hid (HO7.out.below hb)
 replace HE8 := Lib.hid (HE8.out.below hb)
 have HO9 := Lib.hid ho9.acts
 have HG9 : Hid (∀ y ∈ o9, ActB y) := Lib.hid (fun y hy => (ho9.made y hy).1)
 have HL9 := Lib.hid (yy400 ho9.own)
 have HK9 := Lib.hid hk9
 clear ho9 hk9 GB
 clear hb
 go_wp2_with fail
 refine (GRB.out _ HD.out).mono ?_
 rintro e xa ⟨⟨Aa, ca, oa, rfl, hoa, hga, hka⟩, hb⟩
 replace HD := Lib.hid (HD.out.trans (hb.mono HD.out.size))
 replace HO5 := Lib.hid (HO5.out.below hb)
 replace HE6 := Lib.hid (HE6.out.below hb)
 replace HO7 := Lib.hid (HO7.out.below hb)
 replace HE8 := Lib.hid (HE8.out.below hb)
 replace HO9 := Lib.hid (HO9.out.below hb)
 have HOA := Lib.hid hoa
 have HGA := Lib.hid hga
 have HKA := Lib.hid hka
 clear hoa hga hka GRB
 clear hb
 go_upto_region 7 with fail
 refine wp_region_lit sc14 (by kernel_rfl) (by kernel_rfl) (fun _ _ d _ _ h => by cases d <;> exact h) ?_
 simp only [picked, sc14, xmc, xmn, xgs, xgz, xgd]
 have er : (R2 == R2) = true := by simp
 have eu : (U2 == U2) = true := by simp
 have ew : (wy == wy) = true := by simp
 replace HD := Lib.hid (Below.drew HD.out)
 replace HO5 := Lib.hid HO5.out.drew
 replace HE6 := Lib.hid HE6.out.drew
 replace HO7 := Lib.hid HO7.out.drew
 replace HE8 := Lib.hid HE8.out.drew
 replace HO9 := Lib.hid HO9.out.drew
 replace HOA := Lib.hid HOA.out.drew
 generalize xa.drew = xb at HD HO5 HE6 HO7 HE8 HO9 HOA ⊢
 repeat (first | (refine yy1 (by rfl) (fun K hK => ?_); go_big_quiet_op; refine hK _ ?_; clear hK K) | (refine yy3 (by rfl) ?_; simp only [Act.put, xsa, xsz, xss]))
 refine yy11 (by rfl) (fun K hK => ?_)
 go_simp
 refine (GSA.out xb A5 A7 c5 c7 o5 o7 HO5.out HO7.out HG5.out HG7.out (HK5.out.trans HK7.out.symm) HL5.out (by rw [← yy426 (HK5.out.trans HK7.out.symm)]; exact HL5.out)).mono ?_
 rintro e xc ⟨rfl, hb⟩
 refine hK _ _ hb ?_
 clear hK K
 replace HD := Lib.hid (HD.out.trans (hb.mono HD.out.size))
 replace HE6 := Lib.hid (HE6.out.below hb)
 replace HE8 := Lib.hid (HE8.out.below hb)
 replace HO9 := Lib.hid (HO9.out.below hb)
 replace HOA := Lib.hid (HOA.out.below hb)
 clear hb
 repeat (first | (refine yy1 (by rfl) (fun K hK => ?_); go_big_quiet_op; refine hK _ ?_; clear hK K) | (refine yy3 (by rfl) ?_; simp only [Act.put, xsa, xsz, xss]))
 refine yy11 (by rfl) (fun K hK => ?_)
 go_simp
 refine (yy718 A6 c6 L6 HL6.out xc HE6.out).mono ?_
 rintro e xd ⟨⟨Ad, cd, rfl, hf1, hf2⟩, hb⟩
 refine hK _ _ hb ?_
 clear hK K
 replace HD := Lib.hid (HD.out.trans (hb.mono HD.out.size))
 replace HE8 := Lib.hid (HE8.out.below hb)
 replace HO9 := Lib.hid (HO9.out.below hb)
 replace HOA := Lib.hid (HOA.out.below hb)
 have HF := Lib.hid hf1
 clear hf1 hf2
 clear hb
 repeat (first | (refine yy1 (by rfl) (fun K hK => ?_); go_big_quiet_op; refine hK _ ?_; clear hK K) | (refine yy3 (by rfl) ?_; simp only [Act.put, xsa, xsz, xss]))
 refine yy11 (by rfl) (fun K hK => ?_)
 go_simp
 refine (yy481 Ad A8 cd c8 L6 L8 (by have := HL6.out; unfold maxLen; omega) HG6.out (fun y hy => (HG8.out y hy).1) (HK6.out.trans HK8.out.symm) xd HF.out HE8.out).mono ?_
 rintro e xe ⟨rfl, hb⟩
 refine hK _ _ hb ?_
 clear hK K
 replace HD := Lib.hid (HD.out.trans (hb.mono HD.out.size))
 replace HO9 := Lib.hid (HO9.out.below hb)
 replace HOA := Lib.hid (HOA.out.below hb)
 clear hb
 repeat (first | (refine yy1 (by rfl) (fun K hK => ?_); go_big_quiet_op; refine hK _ ?_; clear hK K) | (refine yy3 (by rfl) ?_; simp only [Act.put, xsa, xsz, xss]))
 refine yy11 (by rfl) (fun K hK => ?_)
 go_simp
 refine (GSA.out xe A9 Aa c9 ca o9 oa HO9.out HOA.out HG9.out HGA.out (HK9.out.trans HKA.out.symm) HL9.out (by rw [← yy426 (HK9.out.trans HKA.out.symm)]; exact HL9.out)).mono ?_
 rintro e xf ⟨rfl, hb⟩
 refine hK _ _ hb ?_
 clear hK K
 replace HD := Lib.hid (HD.out.trans (hb.mono HD.out.size))
 clear hb
 have HS := Lib.hid (fun e : Ext xf => HBOX.out e.val (HD.out.trans (e.property.mono HD.out.size)))
 have y0 := fun e => (HS.out e).1
 have y1 := fun e => (HS.out e).2.1
 have y2 := fun e => (HS.out e).2.2.1
 have y3 := fun e => (HS.out e).2.2.2.1
 have y4 := fun e => (HS.out e).2.2.2.2.1
 have y5 := fun e => (HS.out e).2.2.2.2.2
 repeat (first | (refine yy1 (by rfl) (fun K hK => ?_); go_big_quiet_op; refine hK _ ?_; clear hK K) | (refine yy3 (by rfl) ?_; simp only [Act.put, xsa, xsz, xss]))
 clear y0 y1 y2 y3 y4 y5 HS
 refine yy11 (by rfl) (fun K hK => ?_)
 go_simp
 refine (GMD.out _ HD.out).mono ?_
 rintro e xg ⟨⟨Ag, cg, rfl, hm1, hm2⟩, hb⟩
 refine hK _ _ hb ?_
 clear hK K
 replace HD := Lib.hid (HD.out.trans (hb.mono HD.out.size))
 have HM1 := Lib.hid hm1
 clear hm1 hm2
 clear hb
 repeat (first | (refine yy1 (by rfl) (fun K hK => ?_); go_big_quiet_op; refine hK _ ?_; clear hK K) | (refine yy3 (by rfl) ?_; simp only [Act.put, xsa, xsz, xss]))
 refine yy11 (by rfl) (fun K hK => ?_)
 go_simp
 refine (GY.out _ HD.out Ag cg HM1.out).mono ?_
 rintro e xh ⟨rfl, hb⟩
 refine hK _ _ hb ?_
 clear hK K
 replace HD := Lib.hid (HD.out.trans (hb.mono HD.out.size))
 clear hb
 repeat (first | (refine yy1 (by rfl) (fun K hK => ?_); go_big_quiet_op; refine hK _ ?_; clear hK K) | (refine yy3 (by rfl) ?_; simp only [Act.put, xsa, xsz, xss]))
 refine yy11 (by rfl) (fun K hK => ?_)
 go_simp
 refine (GRY.out _ HD.out).mono ?_
 rintro e xi ⟨rfl, hb⟩
 refine hK _ _ hb ?_
 clear hK K
 replace HD := Lib.hid (HD.out.trans (hb.mono HD.out.size))
 clear hb
 repeat (first | (refine yy1 (by rfl) (fun K hK => ?_); go_big_quiet_op; refine hK _ ?_; clear hK K) | (refine yy3 (by rfl) ?_; simp only [Act.put, xsa, xsz, xss]))
 refine yy11 (by rfl) (fun K hK => ?_)
 go_simp
 refine (GW.out _ HD.out).mono ?_
 rintro e xj ⟨rfl, hb⟩
 refine hK _ _ hb ?_
 clear hK K
 replace HD := Lib.hid (HD.out.trans (hb.mono HD.out.size))
 clear hb
 repeat (first | (refine yy1 (by rfl) (fun K hK => ?_); go_big_quiet_op; refine hK _ ?_; clear hK K) | (refine yy3 (by rfl) ?_; simp only [Act.put, xsa, xsz, xss]))
 refine yy25 ?_
 go_wp2
 go_ret
 exact ⟨rfl, HBF.out _ HD.out⟩
end Go.Proofs.YtjpjdkdbgjipnaaGreatDoor
