/- Behind commits that name none of its files a transaction is as it was; behind none, too: RebaseIdle answers true and changes nothing. Condition: the table of conflicts holds what the program's text lays. -/
import Derived.Test.YtjpjdkdbgjipnaaDoorU31
import Derived.Test.YtjpjdkdbgjipnaaDoorU33
import Derived.Test.YtjpjdkdbgjipnaaDoorU38
import Derived.Test.YtjpjdkdbgjipnaaDoorU35
import Derived.Test.YtjpjdkdbgjipnaaDoorU36
import Derived.Test.YtjpjdkdbgjipnaaDoorU30
namespace Go.Proofs.YtjpjdkdbgjipnaaDoor
open Go.RowKit Go.Deep
theorem yy298 {l : List ActV} : ∀ {cs : List (List ActV)}, (∀ c ∈ cs, rRb l (eff c) = (l, 0)) → yy97 l cs = (l, 0)
 | [], _ => yy211 l
 | c :: cs, h => by
  have e := h c (List.mem_cons_self ..)
  rw [yy392 (by rw [e]), e]
  exact yy298 fun d hd => h d (List.mem_cons_of_mem _ hd)
def Idle (l : List ActV) (y : CommitV) : Prop := rChk y.acts = 0 ∧ ∀ b ∈ y.acts, ∀ z ∈ tch l, b.id ≠ z
theorem yy838 {l : List ActV} {cs : List CommitV} (hc : rChk l = 0) (h : ∀ y ∈ cs, Idle l y) : yy97 l (cs.map (·.acts)) = (l, 0) :=
 yy298 fun c hc2 => by
  obtain ⟨y, hy, rfl⟩ := List.mem_map.1 hc2
  exact yy617 hc (yy768 (h y hy).1 fun z hz b hb => (h y hy).2 b hb z hz)
set_option maxHeartbeats 8000000 in
set_option maxRecDepth 100000 in
theorem yy362 (A : Option Addr) (l : List ActV) (c : Nat) (C : Option Addr) (cs : List CommitV) (d : Nat) (hl : l.length ≤ maxLen) (hg : ∀ y ∈ l, y.Good) (hcl : cs.length ≤ maxLen) (hcg : ∀ y ∈ cs, y.Good) (w : World) (hA : ActsAt w A l ∧ l.length ≤ c) (hB : yy70 w C cs ∧ cs.length ≤ d) (hC : ConfAt w) :
  Calls Tryd.prog 8 #[.slice A l.length c, .slice C cs.length d] w fun e w' => e = .returned (.bool true) ∧ Below w.heap.size w w' := by
 have HA := xh (fun (X : World) (h : Below w.heap.size w X) => hA.1.below h)
 have HM := xh (fun (X : World) (h : Below w.heap.size w X) => hB.1.below h)
 have HCF := xh (fun (X : World) (h : Below w.heap.size w X) => hC.below h)
 have GW := xh (fun (X : World) (h : Below w.heap.size w X) => yy145 X (HCF.out X h))
 have G1 := xh (fun (X : World) (h : Below w.heap.size w X) => yy117 2000 c hl hg X (HA.out X h))
 have G2 := xh (fun (X : World) (h : Below w.heap.size w X) => yy566 3000 (by omega) C d cs hcl hcg X (HM.out X h))
 have HLC := xh hA.2
 clear hA hB hC
 obtain ⟨T1, HT1⟩ : ∃ x, Hid (yy34 2000 l = x) := ⟨_, xh rfl⟩
 obtain ⟨T2, HT2⟩ : ∃ x, Hid (yy201 3000 cs = x) := ⟨_, xh rfl⟩
 rw [HT1.out] at G1
 rw [HT2.out] at G2
 have HB := xh (Below.refl w.heap.size w)
 by_cases g1 : 2000 < T1
 ·clear hg hcg
  go_enter Tryd.func8, Tryd.ntmps8
  go_wp2_with fail
  refine (G1.out _ HB.out).mono ?_
  rintro e x1 ⟨rfl, hb⟩
  replace HB := xh (HB.out.trans (hb.mono HB.out.size))
  clear hb
  go_wp2_with fail
  refine (GW.out _ HB.out).mono ?_
  rintro e x9 ⟨rfl, hb⟩
  replace HB := xh (HB.out.trans (hb.mono HB.out.size))
  clear hb
  go_wp2
  go_ret
  exact ⟨rfl, HB.out⟩
 obtain ⟨hl1, hab⟩ := acts_b (lim := 2000) (by omega) hg (by rw [HT1.out]; omega)
 by_cases g2 : 3000 < T2
 ·clear hg hcg hab
  go_enter Tryd.func8, Tryd.ntmps8
  go_wp2_with fail
  refine (G1.out _ HB.out).mono ?_
  rintro e x1 ⟨rfl, hb⟩
  replace HB := xh (HB.out.trans (hb.mono HB.out.size))
  clear hb
  go_wp2_with fail
  refine (G2.out _ HB.out).mono ?_
  rintro e x2 ⟨rfl, hb⟩
  replace HB := xh (HB.out.trans (hb.mono HB.out.size))
  clear hb
  go_wp2_with fail
  refine (GW.out _ HB.out).mono ?_
  rintro e x9 ⟨rfl, hb⟩
  replace HB := xh (HB.out.trans (hb.mono HB.out.size))
  clear hb
  go_wp2
  go_ret
  exact ⟨rfl, HB.out⟩
 obtain ⟨hl2, hcw⟩ := yy737 (lim := 3000) (by omega) (l := cs) (by rw [HT2.out]; omega)
 have HCB : Hid (∀ y ∈ cs, ComB y) := xh (fun y hy => by
  obtain ⟨h1, h2⟩ := acts_b (lim := 3000) (by omega) (hcg y hy).2.2.2.1 (hcw y hy)
  exact ⟨h2, by omega, (hcg y hy).2.2.2.2.1⟩)
 have HAB := xh hab
 have HGL := xh hg
 clear hcw hcg hab hg
 have hi1 : ¬ (2000 : Int) < (T1 : Int) := by omega
 have hi2 : ¬ (3000 : Int) < (T2 : Int) := by omega
 have G3 := xh (fun (X : World) (h : Below w.heap.size w X) => yy297 A c l hl (fun a ha => (HAB.out a ha).ok) X (HA.out X h))
 by_cases g3 : rChk l = 0
 rotate_left
 ·obtain ⟨q, HQ⟩ : ∃ q, Hid (rChk l = q) := ⟨_, xh rfl⟩
  rw [HQ.out] at G3 g3
  have hq : (q != 0) = true := by simpa using g3
  clear g3
  go_enter Tryd.func8, Tryd.ntmps8
  go_wp2_with fail
  refine (G1.out _ HB.out).mono ?_
  rintro e x1 ⟨rfl, hb⟩
  replace HB := xh (HB.out.trans (hb.mono HB.out.size))
  clear hb
  go_wp2_with fail
  refine (G2.out _ HB.out).mono ?_
  rintro e x2 ⟨rfl, hb⟩
  replace HB := xh (HB.out.trans (hb.mono HB.out.size))
  clear hb
  go_wp2_with fail
  refine (G3.out _ HB.out).mono ?_
  rintro e x3 ⟨rfl, hb⟩
  replace HB := xh (HB.out.trans (hb.mono HB.out.size))
  clear hb
  go_wp2_with fail
  refine (GW.out _ HB.out).mono ?_
  rintro e x9 ⟨rfl, hb⟩
  replace HB := xh (HB.out.trans (hb.mono HB.out.size))
  clear hb
  go_wp2
  go_ret
  exact ⟨rfl, HB.out⟩
 rw [g3] at G3
 have HG3 := xh g3
 clear g3
 have GB0 := xh (fun (X : World) (h : Below w.heap.size w X) => yy293 A c l (by omega) HAB.out none 0 [] (by simp) (fun y hy => by cases hy) X (HA.out X h) ⟨.inl rfl, fun y hy => by cases hy⟩ (HCF.out X h))
 have GB1 := xh (fun (X : World) (h : Below w.heap.size w X) => yy293 A c l (by omega) HAB.out C d cs (by omega) HCB.out X (HA.out X h) (HM.out X h) (HCF.out X h))
 have GS := xh (fun (X : World) (h : Below w.heap.size w X) (A' : Option Addr) (c' V : Nat) (o : List ActV) (ho : OutS X V A' c' o) (hk : o.map aKey = l.map aKey) => by
  have q := yy164 A' A c' c o l (by rw [yy656 hk]; exact hl) hl (fun y hy => (ho.made y hy).1.1.1) HGL.out X ho.acts (HA.out X h)
  rw [yy279 hk] at q
  exact q)
 have GT := xh (fun (X : World) (h : Below w.heap.size w X) => yy127 A c l (by omega) X (HA.out X h))
 have GCK := xh (fun (X : World) (y : CommitV) (hy : ComB y) (h : ActsAt X y.actsA y.acts) => yy297 y.actsA y.actsC y.acts (by unfold maxLen; have := hy.2.1; omega) (fun a ha => (hy.1 a ha).ok) X h)
 simp only [List.map_nil, List.length_nil, yy211] at GB0
 have HIA := xh (yy838 (l := l) (cs := cs) HG3.out)
 go_enter Tryd.func8, Tryd.ntmps8
 go_wp2_with fail
 refine (G1.out _ HB.out).mono ?_
 rintro e x1 ⟨rfl, hb⟩
 replace HB := xh (HB.out.trans (hb.mono HB.out.size))
 clear hb
 go_wp2_with fail
 refine (G2.out _ HB.out).mono ?_
 rintro e x2 ⟨rfl, hb⟩
 replace HB := xh (HB.out.trans (hb.mono HB.out.size))
 clear hb
 go_wp2_with fail
 refine (G3.out _ HB.out).mono ?_
 rintro e x3 ⟨rfl, hb⟩
 replace HB := xh (HB.out.trans (hb.mono HB.out.size))
 clear hb
 go_wp2_with fail
 refine (GB0.out _ HB.out).mono ?_
 rintro e x4 ⟨⟨A1, c1, o1, V1, rfl, ho, hk⟩, hb⟩
 replace HB := xh (HB.out.trans (hb.mono HB.out.size))
 have GS1 := xh (GS.out x4 HB.out A1 c1 V1 o1 ho hk)
 clear hb ho hk GB0
 go_wp2_with fail
 refine (GS1.out).mono ?_
 rintro e x5 ⟨rfl, hb⟩
 replace HB := xh (HB.out.trans (hb.mono HB.out.size))
 clear hb GS1
 go_wp2_with fail
 refine (GT.out _ HB.out).mono ?_
 rintro e x6 ⟨⟨A2, c2, rfl, hn⟩, hb⟩
 replace HB := xh (HB.out.trans (hb.mono HB.out.size))
 have HNUM := xh (fun (X : World) (h : Below x6.heap.size x6 X) => hn.below h)
 have HD := xh (Below.refl x6.heap.size x6)
 clear hb hn GT
 obtain ⟨tl, HTL⟩ : ∃ t, Hid (tch l = t) := ⟨_, xh rfl⟩
 rw [HTL.out] at HNUM ⊢
 have htl : tl.length ≤ 8000 := by
  have := yy657 l
  rw [HTL.out] at this
  omega
 go_wp2_with fail
 go_loopw [8, 9, 10] (fun s8 s9 s10 wr => ∃ k : Nat, k ≤ cs.length ∧ s8 = .int .i64 (k : Int) ∧ s9 = s9 ∧ s10 = s10 ∧ Hid (∀ (i : Nat) (h : i < cs.length), i < k → Idle l cs[i]) ∧ Hid (Below x6.heap.size x6 wr) ∧ Hid (Below w.heap.size w wr)) (fun s8 _ _ _ => cs.length - (intOf s8).toNat)
 case atStart => exact ⟨0, Nat.zero_le _, rfl, rfl, rfl, xh (fun i h hi => by omega), HD, HB⟩
 case round =>
  clear HB HD
  obtain ⟨k, hk, rfl, _, _, HDN, HD, HB⟩ := hrel
  by_cases hlt : k < cs.length
  ·have hltI : (k : Int) < (cs.length : Int) := by omega
   have hMw := HM.out _ HB.out
   obtain ⟨b, off, rfl, _⟩ := hMw.form (by omega)
   have HY3 : Hid (∀ X : World, Below w.heap.size w X → X.cell? ⟨b, off + k * 4 + 3, none⟩ = some (.slice cs[k].actsA cs[k].acts.length cs[k].actsC)) := xh (fun X h => ((HM.out X h).at_ hlt).2.2.2)
   have HYA : Hid (∀ X : World, Below w.heap.size w X → ActsAt X cs[k].actsA cs[k].acts) := xh (fun X h => (HM.out X h).2 _ (List.getElem_mem hlt))
   have HYB := xh (HCB.out _ (List.getElem_mem hlt))
   have HNX : Hid (Idle l cs[k] → ∀ (i : Nat) (h : i < cs.length), i < k + 1 → Idle l cs[i]) := xh (fun hid i h hi => by
    rcases Nat.lt_or_ge i k with q | q
    ·exact HDN.out i h q
    ·obtain rfl : i = k := by omega
     exact hid)
   clear hMw HDN
   generalize cs[k] = y at HY3 HYA HYB HNX
   have GCy := xh (fun (X : World) (h : Below w.heap.size w X) => GCK.out X y HYB.out (HYA.out X h))
   have z3 := HY3.out _ HB.out
   have hyl : y.acts.length ≤ 1048576 := HYB.out.2.1
   go_wp2_with fail
   refine (GCy.out _ HB.out).mono ?_
   rintro e x7 ⟨rfl, hb⟩
   have HD7 := xh (HD.out.trans (hb.mono HD.out.size))
   have HB7 := xh (HB.out.trans (hb.mono HB.out.size))
   clear hb z3 GCy HD
   by_cases hq : rChk y.acts = 0
   rotate_left
   ·obtain ⟨q, HQ⟩ : ∃ q, Hid (rChk y.acts = q) := ⟨_, xh rfl⟩
    rw [HQ.out] at hq ⊢
    have hqn : (q != 0) = true := by simpa using hq
    clear hq HB
    have HB := HB7
    go_wp2_with fail
    refine (GW.out _ HB.out).mono ?_
    rintro e x9 ⟨rfl, hb⟩
    replace HB := xh (HB.out.trans (hb.mono HB.out.size))
    clear hb
    go_wp2
    go_ret
    exact ⟨rfl, HB.out⟩
   have HQ := xh hq
   rw [hq]
   clear hq HB
   go_wp2_with fail
   go_loopw [9, 10] (fun s9 s10 wr => ∃ j : Nat, j ≤ y.acts.length ∧ s9 = .int .i64 (j : Int) ∧ s10 = s10 ∧ Hid (∀ (i : Nat) (h : i < y.acts.length), i < j → ∀ z ∈ tl, y.acts[i].id ≠ z) ∧ Hid (Below x6.heap.size x6 wr) ∧ Hid (Below w.heap.size w wr)) (fun s9 _ _ => y.acts.length - (intOf s9).toNat)
   case atStart => exact ⟨0, Nat.zero_le _, rfl, rfl, xh (fun i h hi => by omega), HD7, HB7⟩
   case round =>
    clear HB7 HD7
    obtain ⟨j, hj, rfl, _, HDN, HD, HB⟩ := hrel
    have z3 := HY3.out _ HB.out
    by_cases hlt2 : j < y.acts.length
    ·have hltJ : (j : Int) < (y.acts.length : Int) := by omega
     obtain ⟨ba, oa, hya, _⟩ := (HYA.out _ HB.out).form (by omega)
     have HA1 : Hid (∀ X : World, Below w.heap.size w X → X.cell? ⟨ba, oa + j * 6 + 1, none⟩ = some (.int .i64 y.acts[j].id)) := xh (fun X h => by
      have q := HYA.out X h
      rw [hya] at q
      exact (q.at_ hlt2).2.1)
     have HNX2 : Hid ((∀ z ∈ tl, y.acts[j].id ≠ z) → ∀ (i : Nat) (h : i < y.acts.length), i < j + 1 → ∀ z ∈ tl, y.acts[i].id ≠ z) := xh (fun hid i h hi => by
      rcases Nat.lt_or_ge i j with q | q
      ·exact HDN.out i h q
      ·obtain rfl : i = j := by omega
       exact hid)
     have HYA2 : Hid (y.actsA = some ⟨ba, oa, none⟩) := xh hya
     clear hya HDN
     generalize y.acts[j].id = yi at HA1 HNX2
     go_wp2_with fail
     go_loopw [10] (fun s10 wr => ∃ m : Nat, m ≤ tl.length ∧ s10 = .int .i64 (m : Int) ∧ Hid (∀ (i : Nat) (h : i < tl.length), i < m → yi ≠ tl[i]) ∧ Hid (Below x6.heap.size x6 wr) ∧ Hid (Below w.heap.size w wr)) (fun s10 _ => tl.length - (intOf s10).toNat)
     case atStart => exact ⟨0, Nat.zero_le _, rfl, xh (fun i h hi => by omega), HD, HB⟩
     case round =>
      clear HB HD z3
      obtain ⟨m, hm, rfl, HDN, HD, HB⟩ := hrel
      by_cases hlt3 : m < tl.length
      ·obtain ⟨gi, oi, rfl, _⟩ := (HNUM.out _ (Below.refl _ _)).form (by omega)
       have hltM : (m : Int) < (tl.length : Int) := by omega
       have HT3 : Hid (∀ X : World, Below x6.heap.size x6 X → X.cell? ⟨gi, oi + m, none⟩ = some (.int .i64 tl[m])) := xh (fun X h => (HNUM.out X h).get (by omega))
       have HNX3 : Hid (yi ≠ tl[m] → ∀ (i : Nat) (h : i < tl.length), i < m + 1 → yi ≠ tl[i]) := xh (fun hid i h hi => by
        rcases Nat.lt_or_ge i m with q | q
        ·exact HDN.out i h q
        ·obtain rfl : i = m := by omega
         exact hid)
       clear HDN
       generalize tl[m] = ti at HT3 HNX3
       have HDD := xh HD.out.drew
       have HBD := xh HB.out.drew
       have h3c := HYA2.out
       by_cases heq : yi = ti
       ·have d1 : (yi == ti) = true := by rw [heq]; simp
        clear heq
        go_wp2_with fail
        refine wp_region_lit sc9 (by kernel_rfl) (by kernel_rfl) (fun _ _ d _ _ h => by cases d <;> exact h) ?_
        simp only [picked, sc9, xmc, xmn, xgs, xgz, xgd]
        have q0 := fun e : Ext wr.drew => HY3.out e.val (HBD.out.trans (e.property.mono HBD.out.size))
        have q1 := fun e : Ext wr.drew => HA1.out e.val (HBD.out.trans (e.property.mono HBD.out.size))
        have q2 := fun e : Ext wr.drew => HT3.out e.val (HDD.out.trans (e.property.mono HDD.out.size))
        rw [h3c] at q0
        repeat (first | (refine yy0 (by rfl) (fun K hK => ?_); go_big_quiet_op; refine hK _ ?_; clear hK K) | (refine yy2 (by rfl) ?_; simp only [Act.put, xsa, xsz, xss]))
        refine yy13 ?_
        clear HB HD
        have HB := HBD
        go_wp2_with fail
        refine (GW.out _ HB.out).mono ?_
        rintro e x9 ⟨rfl, hb⟩
        replace HB := xh (HB.out.trans (hb.mono HB.out.size))
        clear hb
        go_wp2
        go_ret
        exact ⟨rfl, HB.out⟩
       ·have d1 : (yi == ti) = false := xn heq
        have HN4 := xh (HNX3.out heq)
        clear heq
        go_wp2_with fail
        refine wp_region_lit sc9 (by kernel_rfl) (by kernel_rfl) (fun _ _ d _ _ h => by cases d <;> exact h) ?_
        simp only [picked, sc9, xmc, xmn, xgs, xgz, xgd]
        have q0 := fun e : Ext wr.drew => HY3.out e.val (HBD.out.trans (e.property.mono HBD.out.size))
        have q1 := fun e : Ext wr.drew => HA1.out e.val (HBD.out.trans (e.property.mono HBD.out.size))
        have q2 := fun e : Ext wr.drew => HT3.out e.val (HDD.out.trans (e.property.mono HDD.out.size))
        rw [h3c] at q0
        repeat (first | (refine yy0 (by rfl) (fun K hK => ?_); go_big_quiet_op; refine hK _ ?_; clear hK K) | (refine yy2 (by rfl) ?_; simp only [Act.put, xsa, xsz, xss]))
        refine yy13 ?_
        go_wp2
        go_roundw
        case rel => exact ⟨m + 1, by omega, by go_num, HN4, HDD, HBD⟩
        case measure => simp [intOf]; omega
      ·obtain rfl : m = tl.length := by omega
       have hltM : ¬ (tl.length : Int) < (tl.length : Int) := by omega
       have HN4 := xh (HNX2.out (fun z hz => by
        obtain ⟨i, hi, rfl⟩ := List.getElem_of_mem hz
        exact HDN.out i hi hi))
       clear HNX2 HDN
       go_wp2
       go_roundw
       case rel => exact ⟨j + 1, by omega, by go_num, trivial, HN4, HD, HB⟩
       case measure => simp [intOf]; omega
    ·obtain rfl : j = y.acts.length := by omega
     have hltJ : ¬ (y.acts.length : Int) < (y.acts.length : Int) := by omega
     have HN4 := xh (HNX.out ⟨HQ.out, fun b hb z hz => by
      obtain ⟨i, hi, rfl⟩ := List.getElem_of_mem hb
      exact HDN.out i hi hi z (by rw [← HTL.out]; exact hz)⟩)
     clear HNX HDN
     go_wp2
     go_roundw
     case rel => exact ⟨k + 1, by omega, by go_num, trivial, trivial, HN4, HD, HB⟩
     case measure => simp [intOf]; omega
  ·obtain rfl : k = cs.length := by omega
   have hltI : ¬ (cs.length : Int) < (cs.length : Int) := by omega
   have HALL := xh (HIA.out (fun y hy => by
    obtain ⟨i, hi, rfl⟩ := List.getElem_of_mem hy
    exact HDN.out i hi hi))
   rw [HALL.out] at GB1
   go_wp2_with fail
   refine (GB1.out _ HB.out).mono ?_
   rintro e x8 ⟨⟨A3, c3, o3, V3, rfl, ho, hk3⟩, hb⟩
   replace HB := xh (HB.out.trans (hb.mono HB.out.size))
   have GS3 := xh (GS.out x8 HB.out A3 c3 V3 o3 ho hk3)
   clear hb ho hk3 GB1
   go_wp2_with fail
   refine (GS3.out).mono ?_
   rintro e x5 ⟨rfl, hb⟩
   replace HB := xh (HB.out.trans (hb.mono HB.out.size))
   clear hb
   go_wp2_with fail
   refine (GW.out _ HB.out).mono ?_
   rintro e x9 ⟨rfl, hb⟩
   replace HB := xh (HB.out.trans (hb.mono HB.out.size))
   clear hb
   go_wp2
   go_ret
   exact ⟨rfl, HB.out⟩
end Go.Proofs.YtjpjdkdbgjipnaaDoor
