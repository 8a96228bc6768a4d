/- All acts are done, one behind the other, or none; the first that is refused is told, with its error; the tree that was handed in stays as it was: it answers true and changes nothing. No condition. (Merged of 2 texts.) -/
import Derived.Test.YtmedaimndaaiiaaGreatMLand
import Derived.Test.YtmedaimndaaiiaaGreatMRck
import Derived.Test.YtmedaimndaaiiaaGreatMAwk
import Derived.Test.YtmedaimndaaiiaaGreatMArg
import Derived.Test.YtmedaimndaaiiaaGreatMSound
import Derived.Test.YtmedaimndaaiiaaGreatMTRefSound
import Derived.Test.YtmedaimndaaiiaaGreatMCells
import Derived.ChangeMaps5
/- All acts are done, one behind the other, or none; the first that is refused is told, with its error; the tree that was handed in stays as it was: TxnDoes answers true and changes nothing. No condition. -/
namespace Go.Proofs.YtmedaimndaaiiaaGreat
open Go.RowKit Go.Deep

set_option maxHeartbeats 4000000 in
set_option maxRecDepth 100000 in
theorem txnDoes_any (A : Option Addr) (l : List NodeV) (c : Nat) (B : Option Addr) (m : List ActV) (d : Nat) (hl : l.length ≤ maxLen) (hg : ∀ y ∈ l, y.Good) (hm : m.length ≤ maxLen) (gg : ∀ y ∈ m, y.Good) (w : World) (hA : NodesC w A c l) (hB : ActsAt w B m ∧ m.length ≤ d) :
    Calls Tryz.prog 4 #[.slice A l.length c, .slice B m.length d] w fun e w' => e = .returned (.bool true) ∧ Below w.heap.size w w' := by
  have GA := Lib.hid (fun w => tawake_any w)
  have GS := Lib.hid (tsmall_any A B c d l m hl hm hg gg w hA.1 hB.1)
  have HA := Lib.hid hA
  have HC := Lib.hid hB.1
  have HMD := Lib.hid hB.2
  have hlc := hA.2
  clear hA hB hm
  cases hsm : smallB l m with
  | false =>
    rw [hsm] at GS
    clear hg gg
    go_enter Tryz.func4, Tryz.ntmps4
    have HB := Lib.hid (Below.refl w.heap.size w)
    go_wp2_with fail
    refine (GS.out).mono ?_
    rintro e x1 ⟨rfl, hb⟩
    replace HA := Lib.hid (HA.out.below hb)
    replace HC := Lib.hid (HC.out.below hb)
    replace HB := Lib.hid (HB.out.trans (hb.mono HB.out.size))
    clear hb
    go_wp2_with fail
    refine (GA.out _).mono ?_
    rintro e x2 ⟨rfl, hb⟩
    replace HB := Lib.hid (HB.out.trans (hb.mono HB.out.size))
    clear hb
    go_wp2
    go_ret
    exact ⟨rfl, HB.out⟩

  | true =>
    rw [hsm] at GS
    obtain ⟨hwt, hwa, hm60⟩ := small_yes hsm
    have hslim := wt_slim hwt
    have hgd := nodes_guard hwt
    have GAC := Lib.hid (acts_guard gg hwa)
    clear hsm hwt hwa gg
    by_cases hS : SoundN l
    · have GL := Lib.hid (fun w hA => load_yes A c l (by omega) hlc hg hslim hS w hA)
      have HM := Lib.hid (TreeM.of hS)
      have GR := Lib.hid (fun w hA hB => refDoAll_any HM.out A c B d m (by unfold maxLen; omega) GAC.out w hA hB)
      clear hg hS
      go_enter Tryz.func4, Tryz.ntmps4
      have HB := Lib.hid (Below.refl w.heap.size w)
      go_wp2_with fail
      refine (GS.out).mono ?_
      rintro e x1 ⟨rfl, hb⟩
      replace HA := Lib.hid (HA.out.below hb)
      replace HC := Lib.hid (HC.out.below hb)
      replace HB := Lib.hid (HB.out.trans (hb.mono HB.out.size))
      clear hb
      go_wp2_with fail
      refine (GL.out _ HA.out.1).mono ?_
      rintro e x2 ⟨g, rfl, hgw, ht, hb⟩
      have HT := Lib.hid ht
      replace HA := Lib.hid (HA.out.below hb)
      replace HC := Lib.hid (HC.out.below hb)
      replace HB := Lib.hid (HB.out.trans (hb.mono HB.out.size))
      clear hb ht hgw
      have GD := Lib.hid (fun w h hB => txnDo_any HM.out g B d m (by unfold maxLen; omega) HMD.out GAC.out w h hB)
      have GN := Lib.hid (fun w h => nodes_any (some ⟨g, 0, none⟩) l (by have := HM.out.len; omega) HM.out.slim w h)
      have GSN := Lib.hid (fun A2 c2 w h1 h2 => kSame HM.out HM.out A2 A c2 c w h1 h2)
      rw [sameN_self] at GSN
      obtain ⟨Y, p, u, HV⟩ : ∃ Y p u, Hid (doAllV l m = (Y, p, u)) := ⟨_, _, _, Lib.hid rfl⟩
      have HMY : Hid (u = 0 → TreeM Y) := Lib.hid (fun h => by
        have e := HV.out
        subst h
        unfold doAllV at e
        split at e
        · rename_i hr
          injection e with _ e
          injection e with _ e
          exact absurd e hr
        · have e1 : (doR l m 0).2.2 = 0 := by rw [e]
          have e2 := doR_tree HM.out e1
          rw [e] at e2
          exact e2)
      rw [HV.out] at GD GR
      clear HV
      go_wp2_with fail
      refine (GD.out _ HT.out HC.out).mono ?_
      rintro e x3 ⟨⟨y, rfl, hy0, hy1⟩, hb⟩
      have HY0 := Lib.hid hy0
      have HY1 := Lib.hid hy1
      replace HA := Lib.hid (HA.out.below hb)
      replace HC := Lib.hid (HC.out.below hb)
      replace HT := Lib.hid (HT.out.below hb)
      replace HB := Lib.hid (HB.out.trans (hb.mono HB.out.size))
      clear hb hy0 hy1
      have e3 : (u != u) = false := by simp
      have e4 : (p != p) = false := by simp
      by_cases hu : u = 0
      · obtain ⟨g2, hyg, _, ht2⟩ := HY0.out hu
        have HTY := Lib.hid ht2
        have HMY2 := Lib.hid (HMY.out hu)
        subst hyg
        subst hu
        clear HY0 HY1 HMY ht2
        have GN2 := Lib.hid (fun w h => nodes_any (some ⟨g2, 0, none⟩) Y (by have := HMY2.out.len; omega) HMY2.out.slim w h)
        have GSY := Lib.hid (fun A2 c2 A3 c3 w h1 h2 => kSame HMY2.out HMY2.out A2 A3 c2 c3 w h1 h2)
        rw [sameN_self] at GSY
        go_wp2_with fail
        refine (GR.out _ HA.out HC.out).mono ?_
        rintro e x4 ⟨⟨AX, cX, rfl, hn⟩, hb⟩
        have HX := Lib.hid hn
        replace HA := Lib.hid (HA.out.below hb)
        replace HC := Lib.hid (HC.out.below hb)
        replace HT := Lib.hid (HT.out.below hb)
        replace HTY := Lib.hid (HTY.out.below hb)
        replace HB := Lib.hid (HB.out.trans (hb.mono HB.out.size))
        clear hb hn
        go_wp2_with fail
        refine (GN.out _ HT.out.ptr).mono ?_
        rintro e x5 ⟨A5, c5, rfl, hn, hb⟩
        have HN := Lib.hid hn.nodes.1
        replace HA := Lib.hid (HA.out.below hb)
        replace HTY := Lib.hid (HTY.out.below hb)
        replace HX := Lib.hid (HX.out.below hb)
        replace HB := Lib.hid (HB.out.trans (hb.mono HB.out.size))
        clear hb hn HT
        go_wp2_with fail
        refine (GSN.out _ _ _ HN.out HA.out.1).mono ?_
        rintro e x6 ⟨rfl, hb⟩
        replace HTY := Lib.hid (HTY.out.below hb)
        replace HX := Lib.hid (HX.out.below hb)
        replace HB := Lib.hid (HB.out.trans (hb.mono HB.out.size))
        clear hb

        go_wp2_with fail
        refine (GN2.out _ HTY.out.ptr).mono ?_
        rintro e x7 ⟨A7, c7, rfl, hn, hb⟩
        have HN2 := Lib.hid hn.nodes.1
        replace HX := Lib.hid (HX.out.below hb)
        replace HB := Lib.hid (HB.out.trans (hb.mono HB.out.size))
        clear hb hn HTY
        go_wp2_with fail
        refine (GSY.out _ _ _ _ _ HN2.out HX.out.1).mono ?_
        rintro e x8 ⟨rfl, hb⟩
        replace HB := Lib.hid (HB.out.trans (hb.mono HB.out.size))
        clear hb
        go_wp2_with fail
        refine (GA.out _).mono ?_
        rintro e x9 ⟨rfl, hb⟩
        replace HB := Lib.hid (HB.out.trans (hb.mono HB.out.size))
        clear hb
        go_wp2
        go_ret
        exact ⟨rfl, HB.out⟩

      · obtain rfl := HY1.out hu
        have hun : (u == 0) = false := beq_eq_false_iff_ne.2 hu
        clear HY0 HY1 HMY hu
        go_wp2_with fail
        refine (GR.out _ HA.out HC.out).mono ?_
        rintro e x4 ⟨⟨AX, cX, rfl, hn⟩, hb⟩
        replace HA := Lib.hid (HA.out.below hb)
        replace HT := Lib.hid (HT.out.below hb)
        replace HB := Lib.hid (HB.out.trans (hb.mono HB.out.size))
        clear hb hn
        go_wp2_with fail
        refine (GN.out _ HT.out.ptr).mono ?_
        rintro e x5 ⟨A5, c5, rfl, hn, hb⟩
        have HN := Lib.hid hn.nodes.1
        replace HA := Lib.hid (HA.out.below hb)
        replace HB := Lib.hid (HB.out.trans (hb.mono HB.out.size))
        clear hb hn HT
        go_wp2_with fail
        refine (GSN.out _ _ _ HN.out HA.out.1).mono ?_
        rintro e x6 ⟨rfl, hb⟩
        replace HB := Lib.hid (HB.out.trans (hb.mono HB.out.size))
        clear hb
        go_wp2_with fail
        refine (GA.out _).mono ?_
        rintro e x9 ⟨rfl, hb⟩
        replace HB := Lib.hid (HB.out.trans (hb.mono HB.out.size))
        clear hb
        go_wp2
        go_ret
        exact ⟨rfl, HB.out⟩


    · have GL := Lib.hid (fun w hA => load_no A c l (by omega) hlc hg hslim hS w hA)
      have GO := Lib.hid (fun w hA => refSound_any A c l (by omega) hg (fun y hy => by have := (hgd.2 y hy).2; omega) w hA)
      rw [rSound_no hS] at GO
      clear hg hS
      go_enter Tryz.func4, Tryz.ntmps4
      have HB := Lib.hid (Below.refl w.heap.size w)
      go_wp2_with fail
      refine (GS.out).mono ?_
      rintro e x1 ⟨rfl, hb⟩
      replace HA := Lib.hid (HA.out.below hb)
      replace HC := Lib.hid (HC.out.below hb)
      replace HB := Lib.hid (HB.out.trans (hb.mono HB.out.size))
      clear hb
      go_wp2_with fail
      refine (GL.out _ HA.out.1).mono ?_
      rintro e x2 ⟨rfl, hb⟩
      replace HA := Lib.hid (HA.out.below hb)
      replace HB := Lib.hid (HB.out.trans (hb.mono HB.out.size))
      clear hb
      go_wp2_with fail
      refine (GO.out _ HA.out.1).mono ?_
      rintro e x3 ⟨rfl, hb⟩
      replace HB := Lib.hid (HB.out.trans (hb.mono HB.out.size))
      clear hb
      go_wp2_with fail
      refine (GA.out _).mono ?_
      rintro e x4 ⟨rfl, hb⟩
      replace HB := Lib.hid (HB.out.trans (hb.mono HB.out.size))
      clear hb
      go_wp2
      go_ret
      exact ⟨rfl, HB.out⟩

end Go.Proofs.YtmedaimndaaiiaaGreat

/- All acts are done, one behind the other, or none; the first that is refused is told, with its error; the tree that was handed in stays as it was: it answers true and changes nothing. No condition. -/
namespace Go.Proofs.YtmedaimndaaiiaaGreat
open Go.ChangeShapes Go.WideShapes Go.ChangeAt Go.RowKit

set_option maxRecDepth 100000 in
theorem txnDoes_lifted (os : Os) (started : os.Started) (H : Type) (enc : TypeId × Value → H) :
    ReturnsInHanded {} Tryz.checked os 4 .any (Rows.txnDoesSpec.pre6 enc Tryz.prog Tryz.f4 Rows.txnDoesRow.domain false) (Rows.txnDoesSpec.post enc Tryz.prog Tryz.f4 false true false false) := by
  refine returnsInHanded_of_change (C := Tryz.checked) law_own started (by kernel_rfl) Tryz.func4
    (ChangeSpec.witness6 (enc := enc) (C := Tryz.checked) false ⟨#[], #[.slice none 0 0, .slice none 0 0], []⟩ 8 (by kernel_rfl) (by kernel_rfl) (by kernel_rfl) (by kernel_rfl)) ?_
  intro W base args ds gs before hval0 hW _ _
  have hval : ∀ (j : Nat) t v, Tryz.f4.params[j]? = some t → args[j]? = some v → Value.okWide Tryz.prog W .any base t v := hval0
  have hW' := hW
  obtain ⟨p, q, hA0, hV, rfl, _, _⟩ := hW
  have hlt : ∀ x ∈ p ++ q, x.block < W.heap.size := fun x hx => hW'.lt x hx
  have hA : DataW.TrodAll enc Tryz.prog W 0 (fun _ => true) true Tryz.f4.params.toList args.toList ds p := hA0
  rw [Tryz.params4] at hA hval
  obtain ⟨v0, v1, d0, d1, p0, p1, rfl, rfl, rfl, h0, h1⟩ := trodAll_two hA
  obtain ⟨rfl, rfl⟩ := trodVars_none hV
  obtain ⟨A0, l0, c0, rfl, hat0, hg0, hlc0, hc0⟩ := open_nodes (hval 0 38 v0 rfl rfl) h0 (fun x hx => hlt x (by simp [hx]))
  have hl0 : l0.length ≤ maxLen := by omega
  obtain ⟨A1, l1, c1, rfl, hat1, hg1, hlc1, hc1⟩ := open_acts (hval 1 22 v1 rfl rfl) h1 (fun x hx => hlt x (by simp [hx]))
  have hl1 : l1.length ≤ maxLen := by omega
  clear hA0 hval0
  refine (txnDoes_any A0 l0 c0 A1 l1 c1 hl0 hg0 hl1 hg1 W ⟨hat0, hlc0⟩ ⟨hat1, hlc1⟩).mono fun e W' ⟨he, hb⟩ => ?_
  exact ⟨_, he, law_post law_laid (by kernel_rfl) (by kernel_rfl) Tryz.underlying4 rfl hW' rfl hb⟩

theorem txnDoes_holds : Rows.TxnDoesSaid :=
  OpenClaim.holds_of_wide 4 Tryz.f4 rfl rfl rfl rfl rfl rfl rfl ⟨rfl, rfl, rfl, rfl, rfl⟩ rfl rfl rfl rfl rfl (by kernel_rfl) Tryz.func4 (by kernel_rfl)
    (of_decide_eq_true (by kernel_rfl)) (by unfold Func.isWrapper; first | (rw [if_pos (by decide +kernel)]; kernel_rfl) | (rw [if_neg (by decide +kernel)]; exact ⟨rfl, rfl⟩))
    (fun os started H enc _ => txnDoes_lifted os started H enc)
end Go.Proofs.YtmedaimndaaiiaaGreat
