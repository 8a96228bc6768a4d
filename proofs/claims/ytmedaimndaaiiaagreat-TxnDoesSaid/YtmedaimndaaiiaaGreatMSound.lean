/- An act in a box; what the landed Do leaves. No condition. (Merged of 2 texts.) -/
import Derived.Test.YtmedaimndaaiiaaGreatMTTreeLand
import Derived.Test.YtmedaimndaaiiaaGreatMTTreePut
import Derived.Test.YtmedaimndaaiiaaGreatMTm
/- The landed tree: where a node may stand; just what is a tree is taken. Conditions: no more than 2^20 nodes, nodes that may be, names and texts of at most 2^40 bytes. -/
namespace Go.Proofs.YtmedaimndaaiiaaGreat
open Go.RowKit Go.Deep

set_option maxHeartbeats 2000000 in
set_option maxRecDepth 100000 in
theorem placed_any (g : Nat) (l : List NodeV) (y : NodeV) (hs : Srt l) (hl : l.length ≤ 1048576) (hg : ∀ x ∈ l, x.Good) (hy : ∀ x ∈ y.name, x < 256) (w : World) (h : TreeAt w g l) :
    Calls Tryz.prog 76 #[.pointer (some ⟨g, 0, none⟩), .agg (nodeCells y).toArray] w fun e w' => e = .returned (.bool (pB (Placed l y))) ∧ Below w.heap.size w w' := by
  obtain ⟨id, pa, nm, dr, tx⟩ := y
  unfold nodeCells
  simp only at hy ⊢
  obtain ⟨T, HT⟩ : ∃ T, Hid (pB (Placed l ⟨id, pa, nm, dr, tx⟩) = T) := ⟨_, Lib.hid rfl⟩
  have HNOT : Hid (¬ Placed l ⟨id, pa, nm, dr, tx⟩ → T = false) := fun h => by rw [← HT.out]; exact pB_no h
  have HYEST : Hid (Placed l ⟨id, pa, nm, dr, tx⟩ → T = true) := fun h => by rw [← HT.out]; exact pB_yes h
  rw [HT.out]
  unfold Placed at HNOT HYEST
  simp only at HNOT HYEST
  have HTR := Lib.hid h
  have HTW : Hid (∀ w', Below w.heap.size w w' → TreeAt w' g l) := fun w' hb => HTR.out.below hb
  have GC := Lib.hid (fun w' (hb : Below w.heap.size w w') => child_any _ l pa nm (by omega) hg hy w' (HTW.out w' hb).ptr)
  have GL := Lib.hid (fun w' (hb : Below w.heap.size w w') => line_any g l id hs hl w' (HTW.out w' hb))
  have GI := Lib.hid (fun w' (hb : Below w.heap.size w w') => into_any g l pa hs (by omega) w' (HTW.out w' hb))
  have HR := Lib.hid (node_row0 w ⟨id, pa, nm, dr, tx⟩)
  unfold nodeCells at HR
  have HBA := Lib.hid ((Below.refl w.heap.size w).alloc (Nat.le_refl _) (.cells #[.int .i64 id, .int .i64 pa, .string (bstr nm), .bool dr, .string (bstr tx)] 52))
  obtain ⟨w1, HW1⟩ : ∃ x, Hid (w.alloc (.cells #[.int .i64 id, .int .i64 pa, .string (bstr nm), .bool dr, .string (bstr tx)] 52) = x) := ⟨_, Lib.hid rfl⟩
  simp only [List.toArray] at HR
  rw [HW1.out] at HR HBA
  obtain ⟨cI, HCI⟩ : ∃ x, Hid (chI l pa nm = x) := ⟨_, Lib.hid rfl⟩
  obtain ⟨cB, HCB⟩ : ∃ x, Hid (chB l pa nm = x) := ⟨_, Lib.hid rfl⟩
  obtain ⟨R, HLR⟩ : ∃ x, Hid (lineF l l.length id [] = x) := ⟨_, Lib.hid rfl⟩
  have HLB : Hid (lineB l id = R.isSome) := by show lineB l id = _; unfold lineB; rw [HLR.out]
  obtain ⟨u, HU⟩ : ∃ x, Hid (rUp l pa 0 = x) := ⟨_, Lib.hid rfl⟩
  rw [HCI.out, HCB.out] at GC
  rw [HLR.out] at GL
  rw [HU.out] at GI
  rw [HCI.out, HU.out, HLB.out] at HNOT HYEST
  clear HT h hs hg hy
  obtain ⟨b, HB0⟩ : ∃ b, Hid (R.isSome = b) := ⟨_, Lib.hid rfl⟩
  rw [HB0.out] at HNOT HYEST
  by_cases hb : b = true
  · subst hb
    by_cases hu : u = 0
    · by_cases hc : cI = id
      · have HE := Lib.hid (HYEST.out ⟨rfl, hu, hc⟩)
        have e0 : (cI == id) = true := beq_iff_eq.2 hc
        subst hu
        clear HNOT HYEST hc
        go_enter Tryz.func76, Tryz.ntmps76
        go_wp2_with fail
        rw [HW1.out]
        refine (GC.out w1 HBA.out).mono ?_
        rintro e w2 ⟨rfl, hb2⟩
        have HB2 := Lib.hid hb2
        clear hb2
        obtain ⟨k0, k1, k2, k3, k4⟩ := node_row_at (HR.out.of_block (HB2.out.block _ HR.out.lt))
        simp only at k0 k1 k2
        go_wp2_with fail
        refine (GL.out w2 (HBA.out.trans (HB2.out.mono HBA.out.size))).mono ?_
        rintro e w3 ⟨A, c, rfl, ho, hb3⟩
        have HB3 := Lib.hid (HB2.out.trans (hb3.mono HB2.out.size))
        clear hb3 ho k0 k1 k2 k3 k4
        obtain ⟨k0, k1, k2, k3, k4⟩ := node_row_at (HR.out.of_block (HB3.out.block _ HR.out.lt))
        simp only at k0 k1 k2
        rw [HB0.out]
        go_wp2_with fail
        refine (GI.out w3 (HBA.out.trans (HB3.out.mono HBA.out.size))).mono ?_
        rintro e w4 ⟨rfl, hb4⟩
        have HB4 := Lib.hid (HB3.out.trans (hb4.mono HB3.out.size))
        clear hb4 k0 k1 k2 k3 k4
        obtain ⟨k0, k1, k2, k3, k4⟩ := node_row_at (HR.out.of_block (HB4.out.block _ HR.out.lt))
        simp only at k0 k1 k2
        go_wp2
        go_ret
        exact ⟨by rw [HE.out]; rfl, HBA.out.trans (HB4.out.mono HBA.out.size)⟩
      · have HE := Lib.hid (HNOT.out fun h => hc h.2.2)
        have e0 : (cI == id) = false := beq_eq_false_iff_ne.2 hc
        subst hu
        clear HNOT HYEST hc
        go_enter Tryz.func76, Tryz.ntmps76
        go_wp2_with fail
        rw [HW1.out]
        refine (GC.out w1 HBA.out).mono ?_
        rintro e w2 ⟨rfl, hb2⟩
        have HB2 := Lib.hid hb2
        clear hb2
        obtain ⟨k0, k1, k2, k3, k4⟩ := node_row_at (HR.out.of_block (HB2.out.block _ HR.out.lt))
        simp only at k0 k1 k2
        go_wp2_with fail
        refine (GL.out w2 (HBA.out.trans (HB2.out.mono HBA.out.size))).mono ?_
        rintro e w3 ⟨A, c, rfl, ho, hb3⟩
        have HB3 := Lib.hid (HB2.out.trans (hb3.mono HB2.out.size))
        clear hb3 ho k0 k1 k2 k3 k4
        obtain ⟨k0, k1, k2, k3, k4⟩ := node_row_at (HR.out.of_block (HB3.out.block _ HR.out.lt))
        simp only at k0 k1 k2
        rw [HB0.out]
        go_wp2_with fail
        refine (GI.out w3 (HBA.out.trans (HB3.out.mono HBA.out.size))).mono ?_
        rintro e w4 ⟨rfl, hb4⟩
        have HB4 := Lib.hid (HB3.out.trans (hb4.mono HB3.out.size))
        clear hb4 k0 k1 k2 k3 k4
        obtain ⟨k0, k1, k2, k3, k4⟩ := node_row_at (HR.out.of_block (HB4.out.block _ HR.out.lt))
        simp only at k0 k1 k2
        go_wp2
        go_ret
        exact ⟨by rw [HE.out]; rfl, HBA.out.trans (HB4.out.mono HBA.out.size)⟩
    · have HE := Lib.hid (HNOT.out fun h => hu h.2.1)
      have e0 : (u == 0) = false := beq_eq_false_iff_ne.2 hu
      clear HNOT HYEST hu
      go_enter Tryz.func76, Tryz.ntmps76
      go_wp2_with fail
      rw [HW1.out]
      refine (GC.out w1 HBA.out).mono ?_
      rintro e w2 ⟨rfl, hb2⟩
      have HB2 := Lib.hid hb2
      clear hb2
      obtain ⟨k0, k1, k2, k3, k4⟩ := node_row_at (HR.out.of_block (HB2.out.block _ HR.out.lt))
      simp only at k0 k1 k2
      go_wp2_with fail
      refine (GL.out w2 (HBA.out.trans (HB2.out.mono HBA.out.size))).mono ?_
      rintro e w3 ⟨A, c, rfl, ho, hb3⟩
      have HB3 := Lib.hid (HB2.out.trans (hb3.mono HB2.out.size))
      clear hb3 ho k0 k1 k2 k3 k4
      obtain ⟨k0, k1, k2, k3, k4⟩ := node_row_at (HR.out.of_block (HB3.out.block _ HR.out.lt))
      simp only at k0 k1 k2
      rw [HB0.out]
      go_wp2_with fail
      refine (GI.out w3 (HBA.out.trans (HB3.out.mono HBA.out.size))).mono ?_
      rintro e w4 ⟨rfl, hb4⟩
      have HB4 := Lib.hid (HB3.out.trans (hb4.mono HB3.out.size))
      clear hb4 k0 k1 k2 k3 k4
      obtain ⟨k0, k1, k2, k3, k4⟩ := node_row_at (HR.out.of_block (HB4.out.block _ HR.out.lt))
      simp only at k0 k1 k2
      go_wp2
      go_ret
      exact ⟨by rw [HE.out]; rfl, HBA.out.trans (HB4.out.mono HBA.out.size)⟩
  · have hb : b = false := by simpa using hb
    subst hb
    have HE := Lib.hid (HNOT.out fun h => by cases h.1)
    clear HNOT HYEST
    go_enter Tryz.func76, Tryz.ntmps76
    go_wp2_with fail
    rw [HW1.out]
    refine (GC.out w1 HBA.out).mono ?_
    rintro e w2 ⟨rfl, hb2⟩
    have HB2 := Lib.hid hb2
    clear hb2
    obtain ⟨k0, k1, k2, k3, k4⟩ := node_row_at (HR.out.of_block (HB2.out.block _ HR.out.lt))
    simp only at k0 k1 k2
    go_wp2_with fail
    refine (GL.out w2 (HBA.out.trans (HB2.out.mono HBA.out.size))).mono ?_
    rintro e w3 ⟨A, c, rfl, ho, hb3⟩
    have HB3 := Lib.hid (HB2.out.trans (hb3.mono HB2.out.size))
    clear hb3 ho k0 k1 k2 k3 k4
    obtain ⟨k0, k1, k2, k3, k4⟩ := node_row_at (HR.out.of_block (HB3.out.block _ HR.out.lt))
    simp only at k0 k1 k2
    rw [HB0.out]
    go_wp2
    go_ret
    exact ⟨by rw [HE.out]; rfl, HBA.out.trans (HB3.out.mono HBA.out.size)⟩

set_option maxHeartbeats 2000000 in
set_option maxRecDepth 100000 in
theorem sound_any (A : Option Addr) (c : Nat) (l : List NodeV) (hl : l.length ≤ 1048576) (hlc : l.length ≤ c) (hg : ∀ y ∈ l, y.Good) (hs : Slim l) (w : World) (hA : NodesAt w A l) :
    Calls Tryz.prog 47 #[.slice A l.length c] w fun e w' => e = .returned (.bool (rSound l)) ∧ Below w.heap.size w w' := by
  have HA := Lib.hid hA
  have GR := Lib.hid (rising_any A c l hl w hA)
  obtain ⟨T, HT⟩ : ∃ T, Hid (rSound l = T) := ⟨_, Lib.hid rfl⟩
  have HNOT : Hid (¬ LandOk l → T = false) := fun h => by rw [← HT.out]; exact rSound_no fun e => h (land_iff.2 e)
  have HYEST : Hid (LandOk l → T = true) := fun h => by rw [← HT.out]; exact rSound_yes (land_iff.1 h)
  rw [HT.out]
  by_cases h100 : 100 < l.length
  · have HE := Lib.hid (HNOT.out fun h => by have := h.1; omega)
    clear HNOT HYEST hA hg hs
    go_enter Tryz.func47, Tryz.ntmps47
    go_wp2
    go_ret
    exact ⟨by rw [HE.out]; rfl, Below.refl _ _⟩
  by_cases hr : Rising l
  · rw [pB_yes hr] at GR
    have h100' : l.length ≤ 100 := by omega
    have HGOOD := Lib.hid hg
    have HSLIM := Lib.hid hs
    have GN := Lib.hid (fun (k : Nat) (hk : k < l.length) w => name_any l[k].name (hg _ (List.getElem_mem hk)).2.2.1.1 (by have := (hs _ (List.getElem_mem hk)).1; unfold maxLen; omega) w)
    have GW := Lib.hid (fun (k : Nat) (hk : k < l.length) w => written_any l[k] (hg _ (List.getElem_mem hk)).2.2.2.1 (hs _ (List.getElem_mem hk)).2 w)
    have HRI := Lib.hid hr
    have GP := Lib.hid (fun (k : Nat) (hk : k < l.length) (g : Nat) (w : World) (h : TreeAt w g l) => placed_any g l l[k] hr.1 hl hg (hg _ (List.getElem_mem hk)).2.2.1.1 w h)
    clear hA h100 hr hg hs
    go_enter Tryz.func47, Tryz.ntmps47
    go_wp2_with fail
    refine (GR.out).mono ?_
    rintro e w2 ⟨rfl, hb2⟩
    have HB2 := Lib.hid hb2
    have HTA := Lib.hid (TreeAt.new (w := w2) (A := A) (c := c) (l := l) ⟨HA.out.below hb2, hlc⟩ rfl)
    obtain ⟨w3, HW3⟩ : ∃ x, Hid (w2.alloc (.cells #[.slice A l.length c] 74) = x) := ⟨_, Lib.hid rfl⟩
    have HB3 : Hid (Below w.heap.size w w3) := by show Below _ _ _; rw [← HW3.out]; exact hb2.trans ((Below.refl _ _).alloc hb2.size _)
    rw [HW3.out] at HTA
    obtain ⟨g, HG⟩ : ∃ g, Hid (w2.heap.size = g) := ⟨_, Lib.hid rfl⟩
    rw [HG.out] at HTA
    have HNA := Lib.hid (HA.out.below HB3.out)
    clear hb2
    go_wp2_with fail
    rw [HW3.out, HG.out]
    go_loopw [2, 5, 18] (fun s2 s5 s18 wr => ∃ (k : Nat), k ≤ l.length ∧ s2 = .bool false ∧ s5 = s5 ∧ s18 = .int .i64 (k : Int) ∧ Hid (Below w3.heap.size w3 wr) ∧ Hid (∀ y ∈ l.take k, IsName y.name ∧ Placed l y ∧ Written y)) (fun _ _ i _ => l.length - (intOf i).toNat)
    case atStart => exact ⟨0, Nat.zero_le _, rfl, rfl, rfl, Below.refl _ _, fun y hy => by simp at hy⟩
    case round =>
      obtain ⟨k, hk, rfl, _, rfl, HB, HM⟩ := hrel
      by_cases hlt : k < l.length
      · have hltI : (k : Int) < (l.length : Int) := by omega
        have NA := HNA.out.below HB.out
        obtain ⟨b, off, rfl, _⟩ := NA.form (by omega)
        obtain ⟨c0, c1, c2, c3', c4⟩ := NA.at_ hlt
        have HLST : Hid (∀ y ∈ l.take (k + 1), y ∈ l.take k ∨ y = l[k]) := fun y hy => by
          rw [List.take_succ_eq_append_getElem hlt] at hy
          rcases List.mem_append.1 hy with hy | hy
          · exact .inl hy
          · exact .inr (List.mem_singleton.1 hy)
        have HNO : Hid (¬ (IsName l[k].name ∧ Placed l l[k] ∧ Written l[k]) → T = false) := fun h => HNOT.out fun e => h (e.2.2.1 _ (List.getElem_mem hlt))
        have GNk := Lib.hid (GN.out k hlt)
        have GPk := Lib.hid (GP.out k hlt)
        have GWk := Lib.hid (GW.out k hlt)
        clear NA
        generalize l[k] = y at c0 c1 c2 c3' c4 HLST HNO GNk GPk GWk
        have HR := Lib.hid (node_row0 wr y)
        have HBA := Lib.hid ((Below.refl wr.heap.size wr).alloc (Nat.le_refl _) (.cells #[.int .i64 y.id, .int .i64 y.parent, .string (bstr y.name), .bool y.dir, .string (bstr y.text)] 52))
        unfold nodeCells at HR GPk GWk
        simp only [List.toArray] at HR
        obtain ⟨w4, HW4⟩ : ∃ x, Hid (wr.alloc (.cells #[.int .i64 y.id, .int .i64 y.parent, .string (bstr y.name), .bool y.dir, .string (bstr y.text)] 52) = x) := ⟨_, Lib.hid rfl⟩
        rw [HW4.out] at HR HBA
        have HB4 : Hid (Below w3.heap.size w3 w4) := HB.out.trans (HBA.out.mono HB.out.size)
        obtain ⟨j0, j1, j2, j3, j4⟩ := node_row_at HR.out
        by_cases hn : IsName y.name
        · by_cases hp : Placed l y
          · by_cases hw : Written y
            · have HGO : Hid (∀ x ∈ l.take (k + 1), IsName x.name ∧ Placed l x ∧ Written x) := fun x hx => by
                rcases HLST.out x hx with hx | rfl
                · exact HM.out x hx
                · exact ⟨hn, hp, hw⟩
              rw [rName_yes hn] at GNk
              rw [pB_yes hp] at GPk
              rw [pB_yes hw] at GWk
              clear hn hp hw HNO
              go_wp2_with fail
              rw [HW4.out]
              refine (GNk.out w4).mono ?_
              rintro e w5 ⟨rfl, hb5⟩
              have HK5 := Lib.hid (hb5)
              have HB5 := Lib.hid (HB4.out.trans (hb5.mono HB4.out.size))
              clear hb5 j0 j1 j2 j3 j4
              obtain ⟨j0, j1, j2, j3, j4⟩ := node_row_at (HR.out.of_block (HK5.out.block _ HR.out.lt))
              go_wp2_with fail
              refine (GPk.out g w5 (HTA.out.below HB5.out)).mono ?_
              rintro e w6 ⟨rfl, hb6⟩
              have HK6 := Lib.hid (HK5.out.trans (hb6.mono HK5.out.size))
              have HB6 := Lib.hid (HB5.out.trans (hb6.mono HB5.out.size))
              clear hb6 j0 j1 j2 j3 j4
              obtain ⟨j0, j1, j2, j3, j4⟩ := node_row_at (HR.out.of_block (HK6.out.block _ HR.out.lt))
              go_wp2_with fail
              refine (GWk.out w6).mono ?_
              rintro e w7 ⟨rfl, hb7⟩
              have HB7 := Lib.hid (HB6.out.trans (hb7.mono HB6.out.size))
              clear hb7
              go_wp2
              go_roundw
              case rel => exact ⟨k + 1, by omega, rfl, trivial, by go_num, HB7, HGO⟩
              case measure => simp [intOf]; omega
            · have HE := Lib.hid (HNO.out fun h => hw h.2.2)
              rw [rName_yes hn] at GNk
              rw [pB_yes hp] at GPk
              rw [pB_no hw] at GWk
              clear hn hp hw HNO
              go_wp2_with fail
              rw [HW4.out]
              refine (GNk.out w4).mono ?_
              rintro e w5 ⟨rfl, hb5⟩
              have HK5 := Lib.hid (hb5)
              have HB5 := Lib.hid (HB4.out.trans (hb5.mono HB4.out.size))
              clear hb5 j0 j1 j2 j3 j4
              obtain ⟨j0, j1, j2, j3, j4⟩ := node_row_at (HR.out.of_block (HK5.out.block _ HR.out.lt))
              go_wp2_with fail
              refine (GPk.out g w5 (HTA.out.below HB5.out)).mono ?_
              rintro e w6 ⟨rfl, hb6⟩
              have HK6 := Lib.hid (HK5.out.trans (hb6.mono HK5.out.size))
              have HB6 := Lib.hid (HB5.out.trans (hb6.mono HB5.out.size))
              clear hb6 j0 j1 j2 j3 j4
              obtain ⟨j0, j1, j2, j3, j4⟩ := node_row_at (HR.out.of_block (HK6.out.block _ HR.out.lt))
              go_wp2_with fail
              refine (GWk.out w6).mono ?_
              rintro e w7 ⟨rfl, hb7⟩
              have HB7 := Lib.hid (HB6.out.trans (hb7.mono HB6.out.size))
              clear hb7
              go_wp2
              go_ret
              exact ⟨by rw [HE.out]; rfl, HB3.out.trans (HB7.out.mono HB3.out.size)⟩
          · have HE := Lib.hid (HNO.out fun h => hp h.2.1)
            rw [rName_yes hn] at GNk
            rw [pB_no hp] at GPk
            clear hn hp HNO
            go_wp2_with fail
            rw [HW4.out]
            refine (GNk.out w4).mono ?_
            rintro e w5 ⟨rfl, hb5⟩
            have HK5 := Lib.hid (hb5)
            have HB5 := Lib.hid (HB4.out.trans (hb5.mono HB4.out.size))
            clear hb5 j0 j1 j2 j3 j4
            obtain ⟨j0, j1, j2, j3, j4⟩ := node_row_at (HR.out.of_block (HK5.out.block _ HR.out.lt))
            go_wp2_with fail
            refine (GPk.out g w5 (HTA.out.below HB5.out)).mono ?_
            rintro e w6 ⟨rfl, hb6⟩
            have HK6 := Lib.hid (HK5.out.trans (hb6.mono HK5.out.size))
            have HB6 := Lib.hid (HB5.out.trans (hb6.mono HB5.out.size))
            clear hb6 j0 j1 j2 j3 j4
            obtain ⟨j0, j1, j2, j3, j4⟩ := node_row_at (HR.out.of_block (HK6.out.block _ HR.out.lt))
            go_wp2
            go_ret
            exact ⟨by rw [HE.out]; rfl, HB3.out.trans (HB6.out.mono HB3.out.size)⟩
        · have HE := Lib.hid (HNO.out fun h => hn h.1)
          rw [rName_no hn] at GNk
          clear hn HNO
          go_wp2_with fail
          rw [HW4.out]
          refine (GNk.out w4).mono ?_
          rintro e w5 ⟨rfl, hb5⟩
          have HK5 := Lib.hid (hb5)
          have HB5 := Lib.hid (HB4.out.trans (hb5.mono HB4.out.size))
          clear hb5 j0 j1 j2 j3 j4
          obtain ⟨j0, j1, j2, j3, j4⟩ := node_row_at (HR.out.of_block (HK5.out.block _ HR.out.lt))
          go_wp2
          go_ret
          exact ⟨by rw [HE.out]; rfl, HB3.out.trans (HB5.out.mono HB3.out.size)⟩
      · obtain rfl : k = l.length := by omega
        have hltI : ¬ (l.length : Int) < (l.length : Int) := by omega
        have HALL := Lib.hid HM.out
        rw [List.take_length] at HALL
        have HV := Lib.hid (fun (y : NodeV) (hy : y ∈ l) => show (∃ vs, V y.text vs) ∧ y.text.length ≤ 1099511627776 from by
          refine ⟨?_, (HSLIM.out y hy).2⟩
          obtain ⟨_, _, h1, h2⟩ := HALL.out y hy
          cases hd : y.dir with
          | true => rw [h1 hd]; exact ⟨[], V_nil'⟩
          | false => exact (h2 hd).1)
        have GT := Lib.hid (points_any A c l hl HV.out wr (HNA.out.below HB.out))
        have HTT : Hid (T = decide (rTotal l ≤ 10000)) := by
          show T = _
          by_cases h : rTotal l ≤ 10000
          · rw [decide_eq_true h]; exact HYEST.out ⟨h100', HRI.out, HALL.out, h⟩
          · rw [decide_eq_false h]; exact HNOT.out fun e => h e.2.2.2
        obtain ⟨q, HQ⟩ : ∃ q, Hid (rTotal l = q) := ⟨_, Lib.hid rfl⟩
        rw [HQ.out] at GT HTT
        by_cases hq : q ≤ 10000
        · have HE : Hid (T = true) := by show T = true; rw [HTT.out, decide_eq_true hq]
          have d0 : decide ((q : Int) ≤ 10000) = true := decide_eq_true (by omega)
          clear hq
          go_wp2_with fail
          refine (GT.out).mono ?_
          rintro e w5 ⟨rfl, hb5⟩
          go_wp2
          go_ret
          exact ⟨by rw [HE.out]; rfl, HB3.out.trans ((HB.out.trans (hb5.mono HB.out.size)).mono HB3.out.size)⟩
        · have HE : Hid (T = false) := by show T = false; rw [HTT.out, decide_eq_false hq]
          have d0 : decide ((q : Int) ≤ 10000) = false := decide_eq_false (by omega)
          clear hq
          go_wp2_with fail
          refine (GT.out).mono ?_
          rintro e w5 ⟨rfl, hb5⟩
          go_wp2
          go_ret
          exact ⟨by rw [HE.out]; rfl, HB3.out.trans ((HB.out.trans (hb5.mono HB.out.size)).mono HB3.out.size)⟩
  · rw [pB_no hr] at GR
    have HE := Lib.hid (HNOT.out fun h => hr h.2.1)
    have h100' : l.length ≤ 100 := by omega
    clear HNOT HYEST hA hg hs h100
    go_enter Tryz.func47, Tryz.ntmps47
    go_wp2_with fail
    refine (GR.out).mono ?_
    rintro e w2 ⟨rfl, hb2⟩
    go_wp2
    go_ret
    exact ⟨by rw [HE.out]; rfl, hb2⟩

set_option maxHeartbeats 1000000 in
set_option maxRecDepth 100000 in
theorem load_yes (A : Option Addr) (c : Nat) (l : List NodeV) (hl : l.length ≤ 1048576) (hlc : l.length ≤ c) (hg : ∀ y ∈ l, y.Good) (hs : Slim l) (h : SoundN l) (w : World) (hA : NodesAt w A l) :
    Calls Tryz.prog 19 #[.slice A l.length c] w fun e w' => ∃ g, e = .returned (.tuple #[.pointer (some ⟨g, 0, none⟩), .int .i64 0]) ∧ w.heap.size ≤ g ∧ TreeAt w' g l ∧ Below w.heap.size w w' := by
  have G := Lib.hid (sound_any A c l hl hlc hg hs w hA)
  have GO := Lib.hid (fun w hA => ownAll_any A c l hl hs w hA)
  have HA := Lib.hid hA
  rw [rSound_yes h] at G
  clear hA hg hs h
  go_enter Tryz.func19, Tryz.ntmps19
  go_wp2_with fail
  refine (G.out).mono ?_
  rintro e w2 ⟨rfl, hb2⟩
  have HB2 := Lib.hid hb2
  clear hb2
  go_wp2_with fail
  refine (GO.out w2 (HA.out.below HB2.out)).mono ?_
  rintro e w3 ⟨A3, c3, rfl, ho, hb3⟩
  have HB3 := Lib.hid (HB2.out.trans (hb3.mono HB2.out.size))
  have HT := Lib.hid (TreeAt.new ho.nodes (g := w3.heap.size) rfl)
  clear ho hb3
  go_wp2
  go_ret2
  exact ⟨_, rfl, HB3.out.size, HT.out, HB3.out.trans ((Below.refl _ _).alloc HB3.out.size _)⟩
set_option maxHeartbeats 1000000 in
set_option maxRecDepth 100000 in
theorem load_no (A : Option Addr) (c : Nat) (l : List NodeV) (hl : l.length ≤ 1048576) (hlc : l.length ≤ c) (hg : ∀ y ∈ l, y.Good) (hs : Slim l) (h : ¬ SoundN l) (w : World) (hA : NodesAt w A l) :
    Calls Tryz.prog 19 #[.slice A l.length c] w fun e w' => e = .returned (.tuple #[.pointer none, .int .i64 1]) ∧ Below w.heap.size w w' := by
  have G := Lib.hid (sound_any A c l hl hlc hg hs w hA)
  rw [rSound_no h] at G
  clear hA hg hs h
  go_enter Tryz.func19, Tryz.ntmps19
  go_wp2_with fail
  refine (G.out).mono ?_
  rintro e w2 ⟨rfl, hb2⟩
  have HB2 := Lib.hid hb2
  clear hb2
  go_wp2
  go_ret2
  exact ⟨rfl, HB2.out⟩
end Go.Proofs.YtmedaimndaaiiaaGreat

/- An act in a box; what the landed Do leaves. No condition. -/
namespace Go.Proofs.YtmedaimndaaiiaaGreat
open Go.RowKit Go.Deep

def actF (a : ActV) (j : Nat) : Value := ((actCells a)[j]?).getD undef
theorem act_row (w : World) (a : ActV) : (w.alloc (.cells #[.int .i64 a.kind, .int .i64 a.id, .int .i64 a.parent, .string (bstr a.name), .bool a.dir, .slice a.opsA a.ops.length a.opsC] 25)).rowIs w.heap.size 25 6 (actF a) := by
  refine World.rowIs_alloc w _ _ _ (fun i hi => ?_)
  match i, hi with
  | 0, _ => rfl
  | 1, _ => rfl
  | 2, _ => rfl
  | 3, _ => rfl
  | 4, _ => rfl
  | 5, _ => rfl
theorem act_row_at {w : World} {b : Nat} {a : ActV} (h : w.rowIs b 25 6 (actF a)) :
    w.cell? ⟨b, 0, none⟩ = some (.int .i64 a.kind) ∧ w.cell? ⟨b, 1, none⟩ = some (.int .i64 a.id) ∧ w.cell? ⟨b, 2, none⟩ = some (.int .i64 a.parent) ∧ w.cell? ⟨b, 3, none⟩ = some (.string (bstr a.name)) ∧ w.cell? ⟨b, 4, none⟩ = some (.bool a.dir) ∧ w.cell? ⟨b, 5, none⟩ = some (.slice a.opsA a.ops.length a.opsC) :=
  ⟨h.cell (by omega), h.cell (by omega), h.cell (by omega), h.cell (by omega), h.cell (by omega), h.cell (by omega)⟩
/-- What Do leaves. -/
def DoRes (W : World) (g : Nat) (l : List NodeV) (a : ActV) (e : Ending) (w : World) : Prop := e = .returned (.int .i64 (rDo l a).2) ∧ TreeAt w g (rDo l a).1 ∧ Only g W w
theorem doRes_of {W w : World} {g : Nat} {l m : List NodeV} {a : ActV} {u : Int} {e : Ending} (h : rDo l a = (m, u)) (h1 : e = .returned (.int .i64 u)) (h2 : TreeAt w g m) (h3 : Only g W w) : DoRes W g l a e w := by
  unfold DoRes
  rw [h]
  exact ⟨h1, h2, h3⟩
attribute [irreducible] DoRes
theorem DoRes.out {W w : World} {g : Nat} {l : List NodeV} {a : ActV} {e : Ending} (h : DoRes W g l a e w) : e = .returned (.int .i64 (rDo l a).2) ∧ TreeAt w g (rDo l a).1 ∧ Only g W w := by
  unfold DoRes at h
  exact h
theorem TreeM.slim {l : List NodeV} (h : TreeM l) : Slim l := fun y hy => by
  obtain ⟨_, _, h3, _, h5, _⟩ := h.nd y hy
  rw [isName_iff] at h3
  exact ⟨by omega, by omega⟩
theorem TreeM.rising {l : List NodeV} (h : TreeM l) : Rising l := h.land.2.1
theorem TreeM.goodv {l : List NodeV} (h : TreeM l) : ∀ y ∈ l, (∃ vs, V y.text vs) ∧ y.text.length ≤ 1099511627776 := fun y hy => by
  obtain ⟨_, _, _, _, h5, h6, _⟩ := h.nd y hy
  exact ⟨h6, by omega⟩
theorem TreeM.ch_pos {l : List NodeV} (h : TreeM l) {p : Int} {n : List Nat} (hc : chB l p n = true) : 1 ≤ rChild l p n ∧ chI l p n = rChild l p n := by
  refine ⟨?_, if_pos hc⟩
  obtain ⟨y, hy, _, _, e⟩ := child_some (chB_iff.1 hc)
  rw [e]
  exact h.pos hy
theorem ch_none {l : List NodeV} {p : Int} {n : List Nat} (hc : ¬ chB l p n = true) : rChild l p n < 0 := by
  rw [rChild_none fun y hy e => hc (chB_yes hy e)]
  omega
end Go.Proofs.YtmedaimndaaiiaaGreat
