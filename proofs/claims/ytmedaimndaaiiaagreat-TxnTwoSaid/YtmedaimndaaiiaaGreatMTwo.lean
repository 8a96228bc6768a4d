/- A transaction, then another one, do what both as one do, where that may be: it answers true and changes nothing. No condition. (Merged of 2 texts.) -/
import Derived.Test.YtmedaimndaaiiaaGreatMLand
import Derived.Test.YtmedaimndaaiiaaGreatMAwk
import Derived.Test.YtmedaimndaaiiaaGreatMArg
import Derived.Test.YtmedaimndaaiiaaGreatMTxm
import Derived.Test.YtmedaimndaaiiaaGreatMSound
import Derived.Test.YtmedaimndaaiiaaGreatMTRefSound
import Derived.Test.YtmedaimndaaiiaaGreatMCells
import Derived.ChangeMaps5
/- A transaction, then another one, do what both as one do, where that may be: TxnTwo answers true and changes nothing. No condition. -/
namespace Go.Proofs.YtmedaimndaaiiaaGreat
open Go.RowKit Go.Deep

theorem doAllV_tree {T Y : List NodeV} {l : List ActV} {p u : Int} (hm : TreeM T) (h : doAllV T l = (Y, p, u)) (hu : u = 0) : TreeM Y := by
  subst hu
  unfold doAllV at h
  split at h
  · rename_i hr
    injection h with _ e
    injection e with _ e
    exact absurd e hr
  · have e1 : (doR T l 0).2.2 = 0 := by rw [h]
    have e2 := doR_tree hm e1
    rw [h] at e2
    exact e2
/-- Both as one. -/
theorem doAllV_both {T Y Z : List NodeV} {a b : List ActV} {p p2 v : Int} (h1 : doAllV T a = (Y, p, 0)) (h2 : doAllV Y b = (Z, p2, v)) (hr : rChk (a ++ b) = 0) (hs : rChk b = 0) : ∃ n : Int, (a.length : Int) ≤ n ∧ doAllV T (a ++ b) = (Z, n, v) := by
  unfold doAllV at h1
  split at h1
  · rename_i hq
    injection h1 with _ e
    injection e with _ e
    exact absurd e hq
  · rw [doAllV, if_neg (fun g => g hs)] at h2
    rw [doAllV, if_neg (fun g => g hr)]
    have e1 : (doR T a 0).2.2 = 0 := by rw [h1]
    rw [doR_append e1, h1]
    obtain ⟨f1, f2, f3⟩ := doR_from (l := b) (T := Y) (0 + a.length) 0
    rw [h2] at f1 f2
    refine ⟨(doR Y b (0 + a.length)).2.1, by omega, ?_⟩
    exact Prod.ext f1 (Prod.ext rfl f2)
set_option maxHeartbeats 8000000 in
set_option maxRecDepth 100000 in
theorem txnTwo_any (A : Option Addr) (l : List NodeV) (c : Nat) (B : Option Addr) (a : List ActV) (d : Nat) (C : Option Addr) (b : List ActV) (c2 : Nat) (hl : l.length ≤ maxLen) (hg : ∀ y ∈ l, y.Good) (ha : a.length ≤ maxLen) (ga : ∀ y ∈ a, y.Good) (hb : b.length ≤ maxLen) (gb : ∀ y ∈ b, y.Good) (w : World) (hA : NodesC w A c l) (hB : ActsAt w B a ∧ a.length ≤ d) (hC : ActsAt w C b ∧ b.length ≤ c2) :
    Calls Tryz.prog 5 #[.slice A l.length c, .slice B a.length d, .slice C b.length c2] w fun e w' => e = .returned (.bool true) ∧ Below w.heap.size w w' := by
  have GA := Lib.hid (fun w => tawake_any w)
  have GS1 := Lib.hid (fun (X : World) (h : Below w.heap.size w X) => tsmall_any A B c d l a hl ha hg ga X (hA.below h).1 (hB.1.below h))
  have GS2 := Lib.hid (fun (X : World) (h : Below w.heap.size w X) => tsmall_any none C 0 c2 [] b (by simp) hb (fun y hy => (List.not_mem_nil hy).elim) gb X (.inl rfl) (hC.1.below h))
  rw [List.length_nil] at GS2
  have HNA := Lib.hid (fun (X : World) (h : Below w.heap.size w X) => hA.below h)
  have HAA := Lib.hid (fun (X : World) (h : Below w.heap.size w X) => hB.1.below h)
  have HAB := Lib.hid (fun (X : World) (h : Below w.heap.size w X) => hC.1.below h)
  have hlc := hA.2
  have HAD := Lib.hid hB.2
  have HBD := Lib.hid hC.2
  clear hA hB hC
  cases h1 : smallB l a with
  | false =>
    rw [h1] at GS1
    clear hg ga gb GS2
    go_enter Tryz.func5, Tryz.ntmps5
    have HB := Lib.hid (Below.refl w.heap.size w)
    go_wp2_with fail
    refine (GS1.out _ HB.out).mono ?_
    rintro e x1 ⟨rfl, hb⟩
    replace HB := Lib.hid (HB.out.trans (hb.mono HB.out.size))
    clear hb
    go_wp2_with fail
    refine (GA.out _).mono ?_
    rintro e x3 ⟨rfl, hb⟩
    replace HB := Lib.hid (HB.out.trans (hb.mono HB.out.size))
    clear hb
    go_wp2
    go_ret
    exact ⟨rfl, HB.out⟩

  | true =>
  cases h2 : smallB [] b with
  | false =>
    rw [h1] at GS1
    rw [h2] at GS2
    clear hg ga gb
    go_enter Tryz.func5, Tryz.ntmps5
    have HB := Lib.hid (Below.refl w.heap.size w)
    go_wp2_with fail
    refine (GS1.out _ HB.out).mono ?_
    rintro e x1 ⟨rfl, hb⟩
    replace HB := Lib.hid (HB.out.trans (hb.mono HB.out.size))
    clear hb
    go_wp2_with fail
    refine (GS2.out _ HB.out).mono ?_
    rintro e x2 ⟨rfl, hb⟩
    replace HB := Lib.hid (HB.out.trans (hb.mono HB.out.size))
    clear hb
    go_wp2_with fail
    refine (GA.out _).mono ?_
    rintro e x3 ⟨rfl, hb⟩
    replace HB := Lib.hid (HB.out.trans (hb.mono HB.out.size))
    clear hb
    go_wp2
    go_ret
    exact ⟨rfl, HB.out⟩

  | true =>
    rw [h1] at GS1
    rw [h2] at GS2
    obtain ⟨hwt, hwa, ha60⟩ := small_yes h1
    obtain ⟨_, hwb, hb60⟩ := small_yes h2
    have hslim := wt_slim hwt
    have hgd := nodes_guard hwt
    have GAA := Lib.hid (acts_guard ga hwa)
    have GAB := Lib.hid (acts_guard gb hwb)
    have GAL : Hid (∀ y ∈ a ++ b, ActOk y) := Lib.hid (fun y hy => by
      rcases List.mem_append.1 hy with h | h
      · exact GAA.out y h
      · exact GAB.out y h)
    clear h1 h2 hwt hwa hwb ga gb
    by_cases hS : SoundN l
    · have GL := Lib.hid (fun w hA => load_yes A c l (by omega) hlc hg hslim hS w hA)
      have HM := Lib.hid (TreeM.of hS)
      clear hg hS
      obtain ⟨Y, p, u, HV1⟩ : ∃ Y p u, Hid (doAllV l a = (Y, p, u)) := ⟨_, _, _, Lib.hid rfl⟩
      have HMY0 : Hid (u = 0 → TreeM Y) := Lib.hid (fun h => doAllV_tree HM.out HV1.out h)
      obtain ⟨r, HR1⟩ : ∃ r, Hid (rChk (a ++ b) = r) := ⟨_, Lib.hid rfl⟩
      obtain ⟨s, HR2⟩ : ∃ s, Hid (rChk b = s) := ⟨_, Lib.hid rfl⟩
      go_enter Tryz.func5, Tryz.ntmps5
      have HB := Lib.hid (Below.refl w.heap.size w)
      go_wp2_with fail
      refine (GS1.out _ HB.out).mono ?_
      rintro e x1 ⟨rfl, hb⟩
      replace HB := Lib.hid (HB.out.trans (hb.mono HB.out.size))
      clear hb
      go_wp2_with fail
      refine (GS2.out _ HB.out).mono ?_
      rintro e x2 ⟨rfl, hb⟩
      replace HB := Lib.hid (HB.out.trans (hb.mono HB.out.size))
      clear hb
      go_wp2_with fail
      refine (GL.out _ (HNA.out _ HB.out).1).mono ?_
      rintro e x3 ⟨g, rfl, hgw, ht, hb⟩
      have HT := Lib.hid ht
      replace HB := Lib.hid (HB.out.trans (hb.mono HB.out.size))
      clear hb ht hgw
      have GD1 := Lib.hid (fun X (h : TreeAt X g l) (hB : ActsAt X B a) => txnDo_any HM.out g B d a (by unfold maxLen; omega) HAD.out GAA.out X h hB)
      rw [HV1.out] at GD1
      go_wp2_with fail
      refine (GD1.out _ HT.out (HAA.out _ HB.out)).mono ?_
      rintro e x4 ⟨⟨y, rfl, hy0, hy1⟩, hb⟩
      have HY0 := Lib.hid hy0
      have HY1 := Lib.hid hy1
      replace HT := Lib.hid (HT.out.below hb)
      replace HB := Lib.hid (HB.out.trans (hb.mono HB.out.size))
      clear hb hy0 hy1 GD1
      by_cases hu : u = 0
      rotate_left
      · skip
        obtain rfl := HY1.out hu
        have hun : (u != 0) = true := by simpa using hu
        clear HY0 HY1 hu
        go_wp2_with fail
        refine (GA.out _).mono ?_
        rintro e x5 ⟨rfl, hb⟩
        replace HB := Lib.hid (HB.out.trans (hb.mono HB.out.size))
        clear hb
        go_wp2
        go_ret
        exact ⟨rfl, HB.out⟩

      have HMY := Lib.hid (HMY0.out hu)
      obtain ⟨Z, p2, v, HV2⟩ : ∃ Z p v, Hid (doAllV Y b = (Z, p, v)) := ⟨_, _, _, Lib.hid rfl⟩
      have HMZ0 : Hid (v = 0 → TreeM Z) := Lib.hid (fun h => doAllV_tree HMY.out HV2.out h)
      have HALL : Hid (r = 0 → s = 0 → ∃ n : Int, (a.length : Int) ≤ n ∧ doAllV l (a ++ b) = (Z, n, v)) := Lib.hid (fun h1 h2 => doAllV_both (by rw [← hu]; exact HV1.out) HV2.out (HR1.out.trans h1) (HR2.out.trans h2))
      obtain ⟨g2, hyg, _, ht2⟩ := HY0.out hu
      have HTY := Lib.hid ht2
      subst hyg
      subst hu
      clear HY0 HY1 ht2
      have GD2 := Lib.hid (fun X (h : TreeAt X g2 Y) (hB : ActsAt X C b) => txnDo_any HMY.out g2 C c2 b (by unfold maxLen; omega) HBD.out GAB.out X h hB)
      rw [HV2.out] at GD2
      go_wp2_with fail
      refine (GD2.out _ HTY.out (HAB.out _ HB.out)).mono ?_
      rintro e x5 ⟨⟨z, rfl, hz0, hz1⟩, hb⟩
      have HZ0 : Hid (v = 0 → ∃ g, z = some ⟨g, 0, none⟩ ∧ TreeAt x5 g Z) := Lib.hid (fun h => by
        obtain ⟨g, e, _, t⟩ := hz0 h
        exact ⟨g, e, t⟩)
      have HZ1 := Lib.hid hz1
      have HB5 : Hid (Below x5.heap.size x5 x5) := Lib.hid (Below.refl _ _)
      replace HT := Lib.hid (HT.out.below hb)
      replace HB := Lib.hid (HB.out.trans (hb.mono HB.out.size))
      clear hb hz0 hz1 GD2 HTY
      go_wp2_with (first
        | (at_builtin
           refine wpList_acts_app rfl (.tmp 71) (.tmp 72) rfl (B := x5.heap.size) (out := []) (m := a) (OwnA.empty x5 (Nat.le_refl _)) (by simp) d (ActRow.below (HAA.out _ HB.out).1 ((Below.refl _ _).alloc (Nat.le_refl _) _)) (by simp; omega) rfl rfl ?_
           intro A6 c6 x6 hown hbel
           have HO6 := Lib.hid hown
           have HB6 := Lib.hid (((Below.refl x5.heap.size x5).alloc (Nat.le_refl _) (.cells #[] 25)).trans hbel)
           clear hown hbel)
        | (at_builtin
           go_loud (refine wpList_acts_app rfl (.tmp 73) (.tmp 74) rfl (B := x5.heap.size) (out := [] ++ a) (m := b) HO6.out HB6.out.size c2 (ActRow.below (HAB.out _ HB.out).1 HB6.out) (by simp; omega) rfl rfl ?_)
           intro A7 c7 x7 hown hbel
           have HABD := Lib.hid hown.cap
           have HO7 := Lib.hid hown
           have HB7 := Lib.hid (HB6.out.trans hbel)
           clear hown hbel))
      have HAL : Hid (ActsAt x7 A7 (a ++ b)) := Lib.hid ⟨HO7.out.at_, fun y hy => by
        rcases List.mem_append.1 hy with h | h
        · exact ((HAA.out _ HB.out).2 y h).below HB7.out
        · exact ((HAB.out _ HB.out).2 y h).below HB7.out⟩
      replace HT := Lib.hid (HT.out.below HB7.out)
      replace HZ0 : Hid (v = 0 → ∃ g, z = some ⟨g, 0, none⟩ ∧ TreeAt x7 g Z) := Lib.hid (fun h => by
        obtain ⟨g, e, t⟩ := HZ0.out h
        exact ⟨g, e, t.below HB7.out⟩)
      replace HB := Lib.hid (HB.out.trans (HB7.out.mono HB.out.size))
      clear HO6 HO7 HB6 HB7 HB5
      have GCB := Lib.hid (fun X (h : ActsAt X A7 (a ++ b)) => txnCheck_any A7 c7 (a ++ b) (by unfold maxLen; rw [List.length_append]; omega) HABD.out GAL.out X h)
      rw [HR1.out, List.length_append] at GCB
      go_wp2_with fail
      refine (GCB.out _ HAL.out).mono ?_
      rintro e x8 ⟨rfl, hb⟩
      replace HAL := Lib.hid (HAL.out.below hb)
      replace HT := Lib.hid (HT.out.below hb)
      replace HZ0 : Hid (v = 0 → ∃ g, z = some ⟨g, 0, none⟩ ∧ TreeAt x8 g Z) := Lib.hid (fun h => by
        obtain ⟨g, e, t⟩ := HZ0.out h
        exact ⟨g, e, t.below hb⟩)
      replace HB := Lib.hid (HB.out.trans (hb.mono HB.out.size))
      clear hb
      by_cases hr : r = 0
      rotate_left
      · have hrn : (r != 0) = true := by simpa using hr
        clear hr
        go_wp2_with fail
        refine (GA.out _).mono ?_
        rintro e x9 ⟨rfl, hb⟩
        replace HB := Lib.hid (HB.out.trans (hb.mono HB.out.size))
        clear hb
        go_wp2
        go_ret
        exact ⟨rfl, HB.out⟩
      have hrn : (r != 0) = false := by rw [hr]; rfl
      have HR0 := Lib.hid hr
      clear hr
      have GCC := Lib.hid (fun X (h : ActsAt X C b) => txnCheck_any C c2 b (by unfold maxLen; omega) HBD.out GAB.out X h)
      rw [HR2.out] at GCC
      go_wp2_with fail
      refine (GCC.out _ (HAB.out _ HB.out)).mono ?_
      rintro e x9 ⟨rfl, hb⟩
      replace HAL := Lib.hid (HAL.out.below hb)
      replace HT := Lib.hid (HT.out.below hb)
      replace HZ0 : Hid (v = 0 → ∃ g, z = some ⟨g, 0, none⟩ ∧ TreeAt x9 g Z) := Lib.hid (fun h => by
        obtain ⟨g, e, t⟩ := HZ0.out h
        exact ⟨g, e, t.below hb⟩)
      replace HB := Lib.hid (HB.out.trans (hb.mono HB.out.size))
      clear hb
      by_cases hs : s = 0
      rotate_left
      · have hsn : (s != 0) = true := by simpa using hs
        clear hs
        go_wp2_with fail
        refine (GA.out _).mono ?_
        rintro e x10 ⟨rfl, hb⟩
        replace HB := Lib.hid (HB.out.trans (hb.mono HB.out.size))
        clear hb
        go_wp2
        go_ret
        exact ⟨rfl, HB.out⟩
      have hsn : (s != 0) = false := by rw [hs]; rfl
      obtain ⟨n, hn, HV3⟩ := HALL.out HR0.out hs
      have HN := Lib.hid hn
      clear hs hn
      have GD3 := Lib.hid (fun X (h : TreeAt X g l) (hB : ActsAt X A7 (a ++ b)) => txnDo_any HM.out g A7 c7 (a ++ b) (by unfold maxLen; rw [List.length_append]; omega) HABD.out GAL.out X h hB)
      rw [HV3, List.length_append] at GD3
      clear HV3
      go_wp2_with fail
      refine (GD3.out _ HT.out HAL.out).mono ?_
      rintro e x11 ⟨⟨q, rfl, hq0, hq1⟩, hb⟩
      have HQ0 := Lib.hid hq0
      have HQ1 := Lib.hid hq1
      replace HZ0 : Hid (v = 0 → ∃ g, z = some ⟨g, 0, none⟩ ∧ TreeAt x11 g Z) := Lib.hid (fun h => by
        obtain ⟨g, e, t⟩ := HZ0.out h
        exact ⟨g, e, t.below hb⟩)
      replace HB := Lib.hid (HB.out.trans (hb.mono HB.out.size))
      clear hb hq0 hq1 GD3 HAL HT
      by_cases hv : v = 0
      rotate_left
      · obtain rfl := HQ1.out hv
        have hvn : (v != 0) = true := by simpa using hv
        have eV : (v == v) = true := by simp
        have hnn : (a.length : Int) ≤ n := HN.out
        clear HQ0 HQ1 hv HZ0 HZ1
        go_wp2_with fail
        refine (GA.out _).mono ?_
        rintro e x12 ⟨rfl, hb⟩
        replace HB := Lib.hid (HB.out.trans (hb.mono HB.out.size))
        clear hb
        go_wp2
        go_ret
        exact ⟨rfl, HB.out⟩
      obtain ⟨g3, e3, t3⟩ := HZ0.out hv
      obtain ⟨g4, e4, _, t4⟩ := HQ0.out hv
      have HT3 := Lib.hid t3
      have HT4 := Lib.hid t4
      have HMZ := Lib.hid (HMZ0.out hv)
      subst e3 e4 hv
      clear t3 t4 HQ0 HQ1 HZ0 HZ1
      have GE := Lib.hid (fun X h1 h2 => same_any g4 g3 Z Z HMZ.out HMZ.out X h1 h2)
      rw [sameN_self] at GE
      go_wp2_with fail
      refine (GE.out _ HT4.out HT3.out).mono ?_
      rintro e x13 ⟨rfl, hb⟩
      replace HB := Lib.hid (HB.out.trans (hb.mono HB.out.size))
      clear hb
      go_wp2_with fail
      refine (GA.out _).mono ?_
      rintro e x14 ⟨rfl, hb⟩
      replace HB := Lib.hid (HB.out.trans (hb.mono HB.out.size))
      clear hb
      go_wp2
      go_ret
      exact ⟨rfl, HB.out⟩

    · have GL := Lib.hid (fun w hA => load_no A c l (by omega) hlc hg hslim hS w hA)
      have GO := Lib.hid (fun w hA => refSound_any A c l (by omega) hg (fun y hy => by have := (hgd.2 y hy).2; omega) w hA)
      rw [rSound_no hS] at GO
      clear hg hS
      go_enter Tryz.func5, Tryz.ntmps5
      have HB := Lib.hid (Below.refl w.heap.size w)
      go_wp2_with fail
      refine (GS1.out _ HB.out).mono ?_
      rintro e x1 ⟨rfl, hb⟩
      replace HB := Lib.hid (HB.out.trans (hb.mono HB.out.size))
      clear hb
      go_wp2_with fail
      refine (GS2.out _ HB.out).mono ?_
      rintro e x2 ⟨rfl, hb⟩
      replace HB := Lib.hid (HB.out.trans (hb.mono HB.out.size))
      clear hb
      go_wp2_with fail
      refine (GL.out _ (HNA.out _ HB.out).1).mono ?_
      rintro e x3 ⟨rfl, hb⟩
      replace HB := Lib.hid (HB.out.trans (hb.mono HB.out.size))
      clear hb
      go_wp2_with fail
      refine (GO.out _ (HNA.out _ HB.out).1).mono ?_
      rintro e x4 ⟨rfl, hb⟩
      replace HB := Lib.hid (HB.out.trans (hb.mono HB.out.size))
      clear hb
      go_wp2_with fail
      refine (GA.out _).mono ?_
      rintro e x5 ⟨rfl, hb⟩
      replace HB := Lib.hid (HB.out.trans (hb.mono HB.out.size))
      clear hb
      go_wp2
      go_ret
      exact ⟨rfl, HB.out⟩

end Go.Proofs.YtmedaimndaaiiaaGreat

/- A transaction, then another one, do what both as one do, where that may be: it answers true and changes nothing. No condition. -/
namespace Go.Proofs.YtmedaimndaaiiaaGreat
open Go.ChangeShapes Go.WideShapes Go.ChangeAt Go.RowKit

set_option maxRecDepth 100000 in
theorem txnTwo_lifted (os : Os) (started : os.Started) (H : Type) (enc : TypeId × Value → H) :
    ReturnsInHanded {} Tryz.checked os 5 .any (Rows.txnTwoSpec.pre6 enc Tryz.prog Tryz.f5 Rows.txnTwoRow.domain false) (Rows.txnTwoSpec.post enc Tryz.prog Tryz.f5 false true false false) := by
  refine returnsInHanded_of_change (C := Tryz.checked) law_own started (by kernel_rfl) Tryz.func5
    (ChangeSpec.witness6 (enc := enc) (C := Tryz.checked) false ⟨#[], #[.slice none 0 0, .slice none 0 0, .slice none 0 0], []⟩ 8 (by kernel_rfl) (by kernel_rfl) (by kernel_rfl) (by kernel_rfl)) ?_
  intro W base args ds gs before hval0 hW _ _
  have hval : ∀ (j : Nat) t v, Tryz.f5.params[j]? = some t → args[j]? = some v → Value.okWide Tryz.prog W .any base t v := hval0
  have hW' := hW
  obtain ⟨p, q, hA0, hV, rfl, _, _⟩ := hW
  have hlt : ∀ x ∈ p ++ q, x.block < W.heap.size := fun x hx => hW'.lt x hx
  have hA : DataW.TrodAll enc Tryz.prog W 0 (fun _ => true) true Tryz.f5.params.toList args.toList ds p := hA0
  rw [Tryz.params5] at hA hval
  obtain ⟨v0, v1, v2, d0, d1, d2, p0, p1, p2, rfl, rfl, rfl, h0, h1, h2⟩ := trodAll_three hA
  obtain ⟨rfl, rfl⟩ := trodVars_none hV
  obtain ⟨A0, l0, c0, rfl, hat0, hg0, hlc0, hc0⟩ := open_nodes (hval 0 38 v0 rfl rfl) h0 (fun x hx => hlt x (by simp [hx]))
  have hl0 : l0.length ≤ maxLen := by omega
  obtain ⟨A1, l1, c1, rfl, hat1, hg1, hlc1, hc1⟩ := open_acts (hval 1 22 v1 rfl rfl) h1 (fun x hx => hlt x (by simp [hx]))
  have hl1 : l1.length ≤ maxLen := by omega
  obtain ⟨A2, l2, c2, rfl, hat2, hg2, hlc2, hc2⟩ := open_acts (hval 2 22 v2 rfl rfl) h2 (fun x hx => hlt x (by simp [hx]))
  have hl2 : l2.length ≤ maxLen := by omega
  clear hA0 hval0
  refine (txnTwo_any A0 l0 c0 A1 l1 c1 A2 l2 c2 hl0 hg0 hl1 hg1 hl2 hg2 W ⟨hat0, hlc0⟩ ⟨hat1, hlc1⟩ ⟨hat2, hlc2⟩).mono fun e W' ⟨he, hb⟩ => ?_
  exact ⟨_, he, law_post law_laid (by kernel_rfl) (by kernel_rfl) Tryz.underlying4 rfl hW' rfl hb⟩

theorem txnTwo_holds : Rows.TxnTwoSaid :=
  OpenClaim.holds_of_wide 5 Tryz.f5 rfl rfl rfl rfl rfl rfl rfl ⟨rfl, rfl, rfl, rfl, rfl⟩ rfl rfl rfl rfl rfl (by kernel_rfl) Tryz.func5 (by kernel_rfl)
    (of_decide_eq_true (by kernel_rfl)) (by unfold Func.isWrapper; first | (rw [if_pos (by decide +kernel)]; kernel_rfl) | (rw [if_neg (by decide +kernel)]; exact ⟨rfl, rfl⟩))
    (fun os started H enc _ => txnTwo_lifted os started H enc)
end Go.Proofs.YtmedaimndaaiiaaGreat
