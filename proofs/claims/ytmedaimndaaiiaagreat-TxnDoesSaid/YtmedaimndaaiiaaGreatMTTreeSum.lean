/- The landed tree: how many code points nodes have; whether their IDs rise; whether a node may have its text. Conditions: no more than 2^20 nodes, texts that are texts, of at most 2^40 bytes. -/
import Derived.Test.YtmedaimndaaiiaaGreatMTTreeSmall
import Derived.Test.YtmedaimndaaiiaaGreatMTTreeOwn
import Derived.Test.YtmedaimndaaiiaaGreatMCells
/- The landed tree: how many code points nodes have; whether their IDs rise; whether a node may have its text. Conditions: no more than 2^20 nodes, texts that are texts, of at most 2^40 bytes. -/
namespace Go.Proofs.YtmedaimndaaiiaaGreat
open Go.RowKit Go.Deep

set_option maxRecDepth 100000 in
theorem runeCnt_any (l : List Nat) (hv : ∃ vs, V l vs) (hl : l.length ≤ 1099511627776) (w : World) :
    Calls Tryz.prog 93 #[.string (bstr l)] w fun e w' => e = .returned (.int .i64 ((cps l).length : Nat)) ∧ Below w.heap.size w w' := by
  obtain ⟨vs, hv⟩ := hv
  have hsz := bstr_size l
  refine (Tryz.utf8_RuneCountInString (bstr l) w (by omega)).mono ?_
  rintro e w' ⟨rfl, pos, rfl⟩
  rw [runeCount_val hv, cps_of hv]
  exact ⟨rfl, (Below.refl _ _).alloc (Nat.le_refl _) _⟩

set_option maxHeartbeats 1000000 in
set_option maxRecDepth 100000 in
theorem points_any (A : Option Addr) (c : Nat) (l : List NodeV) (hl : l.length ≤ 1048576) (hv : ∀ y ∈ l, (∃ vs, V y.text vs) ∧ y.text.length ≤ 1099511627776) (w : World) (hA : NodesAt w A l) :
    Calls Tryz.prog 78 #[.slice A l.length c] w fun e w' => e = .returned (.int .i64 (rTotal l : Nat)) ∧ Below w.heap.size w w' := by
  have HA := Lib.hid hA; clear hA
  have HTB := Lib.hid (total_bound (l := l) fun y hy => (hv y hy).2)
  have G := Lib.hid (fun (k : Nat) (hk : k < l.length) w => runeCnt_any l[k].text (hv _ (List.getElem_mem hk)).1 (hv _ (List.getElem_mem hk)).2 w)
  clear hv
  obtain ⟨T, HT⟩ : ∃ T, Hid (rTotal l = T) := ⟨_, Lib.hid rfl⟩
  rw [HT.out]
  go_enter Tryz.func78, Tryz.ntmps78
  go_wp2
  go_loopw [3, 5, 8] (fun s3 s5 s8 wr => ∃ (k m : Nat), k ≤ l.length ∧ s3 = .int .i64 (m : Int) ∧ s5 = s5 ∧ s8 = .int .i64 (k : Int) ∧ Hid (Below w.heap.size w wr) ∧ Hid (rTotal (l.take k) = m)) (fun _ _ i _ => l.length - (intOf i).toNat)
  case atStart => exact ⟨0, 0, Nat.zero_le _, rfl, rfl, rfl, Below.refl _ _, by rw [List.take_zero]; exact total_nil⟩
  case round =>
    obtain ⟨k, m, hk, rfl, _, rfl, HB, HM⟩ := hrel
    by_cases hlt : k < l.length
    · have hltI : (k : Int) < (l.length : Int) := by omega
      have NA := HA.out.below HB.out
      obtain ⟨b, off, rfl, _⟩ := NA.form (by omega)
      obtain ⟨c0, c1, c2, c3', c4⟩ := NA.at_ hlt
      have HT2 : Hid (rTotal (l.take (k + 1)) = m + (cps l[k].text).length) := by show _ = _; rw [total_take l hlt, HM.out]
      have HBD : Hid (m + (cps l[k].text).length ≤ (k + 1) * 1099511627776) := by
        have := HTB.out (k + 1) (by omega)
        rw [HT2.out] at this
        exact this
      have Gk := Lib.hid (G.out k hlt)
      clear NA
      generalize l[k].id = yi at c0
      generalize l[k].parent = yp at c1
      generalize l[k].name = yn at c2
      generalize l[k].dir = yd at c3'
      generalize l[k].text = yt at c4 HT2 Gk HBD
      obtain ⟨q, HQ⟩ : ∃ q, Hid ((cps yt).length = q) := ⟨_, Lib.hid rfl⟩
      rw [HQ.out] at HT2 Gk HBD
      have HB2 : Hid (Below w.heap.size w (wr.alloc (.cells #[.int .i64 yi, .int .i64 yp, .string (bstr yn), .bool yd, .string (bstr yt)] 52))) := HB.out.trans ((Below.refl _ _).alloc HB.out.size _)
      go_wp2_with fail
      refine (Gk.out _).mono ?_
      rintro e w3 ⟨rfl, hb⟩
      have HB3 := Lib.hid (HB2.out.trans (hb.mono HB2.out.size))
      clear hb
      have hsum : wrap64 ((m : Int) + (q : Int)) = (m : Int) + (q : Int) := by have := HBD.out; unfold wrap64; omega
      go_wp2
      go_roundw
      case rel => exact ⟨k + 1, m + q, by omega, by go_num, trivial, by go_num, HB3, HT2⟩
      case measure => simp [intOf]; omega
    · obtain rfl : k = l.length := by omega
      have hltI : ¬ (l.length : Int) < (l.length : Int) := by omega
      have HE : Hid (m = T) := by show m = T; rw [← HM.out, List.take_length, HT.out]
      go_wp2
      go_ret
      exact ⟨by rw [HE.out]; rfl, HB.out⟩

/-- Is it so? -/
noncomputable def pB (P : Prop) : Bool := @decide P (Classical.propDecidable P)
theorem pB_yes {P : Prop} (h : P) : pB P = true := by unfold pB; exact @decide_eq_true _ (Classical.propDecidable _) h
theorem pB_no {P : Prop} (h : ¬ P) : pB P = false := by unfold pB; exact @decide_eq_false _ (Classical.propDecidable _) h
theorem pB_iff {P : Prop} : pB P = true ↔ P := by
  by_cases h : P
  · exact ⟨fun _ => h, fun _ => pB_yes h⟩
  · exact ⟨fun e => (by rw [pB_no h] at e; cases e), fun e => absurd e h⟩
attribute [irreducible] pB
/-- All IDs may be, and rise. -/
def Rising (l : List NodeV) : Prop := Srt l ∧ ∀ y ∈ l, IdOk y.id
theorem rising_take {l : List NodeV} {k : Nat} (hk : k < l.length) : Rising (l.take (k + 1)) ↔ Rising (l.take k) ∧ IdOk l[k].id ∧ (∀ y ∈ l.take k, y.id < l[k].id) := by
  unfold Rising Srt
  rw [List.take_succ_eq_append_getElem hk, List.pairwise_append]
  constructor
  · rintro ⟨⟨h1, _, h3⟩, h4⟩
    exact ⟨⟨h1, fun y hy => h4 y (List.mem_append_left _ hy)⟩, h4 _ (List.mem_append_right _ (List.mem_singleton.2 rfl)), fun y hy => h3 y hy _ (List.mem_singleton.2 rfl)⟩
  · rintro ⟨⟨h1, h2⟩, h3, h4⟩
    refine ⟨⟨h1, List.pairwise_singleton _ _, fun y hy z hz => by rw [List.mem_singleton.1 hz]; exact h4 y hy⟩, fun y hy => ?_⟩
    rcases List.mem_append.1 hy with hy | hy
    · exact h2 y hy
    · rw [List.mem_singleton.1 hy]; exact h3
theorem rising_sub {l : List NodeV} (h : Rising l) (k : Nat) : Rising (l.take k) := ⟨h.1.sublist (List.take_sublist _ _), fun y hy => h.2 y (List.mem_of_mem_take hy)⟩

set_option maxHeartbeats 1000000 in
set_option maxRecDepth 100000 in
theorem rising_any (A : Option Addr) (c : Nat) (l : List NodeV) (hl : l.length ≤ 1048576) (w : World) (hA : NodesAt w A l) :
    Calls Tryz.prog 75 #[.slice A l.length c] w fun e w' => e = .returned (.bool (pB (Rising l))) ∧ Below w.heap.size w w' := by
  obtain ⟨T, HT⟩ : ∃ T, Hid (pB (Rising l) = T) := ⟨_, Lib.hid rfl⟩
  have HNOT : Hid (¬ Rising l → T = false) := fun h => by rw [← HT.out]; exact pB_no h
  have HYEST : Hid (Rising l → T = true) := fun h => by rw [← HT.out]; exact pB_yes h
  rw [HT.out]
  have HA := Lib.hid hA; clear hA
  have G := Lib.hid (fun i w => number_any i w)
  go_enter Tryz.func75, Tryz.ntmps75
  go_wp2
  go_loopw [2, 3, 5, 8] (fun s2 s3 s5 s8 wr => ∃ (k : Nat) (m : Int), k ≤ l.length ∧ s2 = .bool false ∧ s3 = .int .i64 m ∧ s5 = s5 ∧ s8 = .int .i64 (k : Int) ∧ Hid (Below w.heap.size w wr) ∧ Hid (Rising (l.take k) ∧ 0 ≤ m ∧ (∀ y ∈ l.take k, y.id ≤ m) ∧ (0 < k → ∃ y ∈ l.take k, y.id = m) ∧ (k = 0 → m = 0))) (fun _ _ _ i _ => l.length - (intOf i).toNat)
  case atStart => exact ⟨0, 0, Nat.zero_le _, rfl, rfl, rfl, rfl, Below.refl _ _, ⟨⟨by simp, by simp⟩, by omega, by simp, by omega, fun _ => rfl⟩⟩
  case round =>
    obtain ⟨k, m, hk, rfl, rfl, _, rfl, HB, HM⟩ := hrel
    by_cases hlt : k < l.length
    · have hltI : (k : Int) < (l.length : Int) := by omega
      have NA := HA.out.below HB.out
      obtain ⟨b, off, rfl, _⟩ := NA.form (by omega)
      obtain ⟨c0, c1, c2, c3', c4⟩ := NA.at_ hlt
      have HRT := Lib.hid (rising_take hlt)
      have HLST : Hid (∀ y ∈ l.take (k + 1), y ∈ l.take k ∨ y = l[k]) := fun y hy => by
        rw [List.take_succ_eq_append_getElem hlt] at hy
        rcases List.mem_append.1 hy with hy | hy
        · exact .inl hy
        · exact .inr (List.mem_singleton.1 hy)
      have HIN : Hid (l[k] ∈ l.take (k + 1)) := by
        show _ ∈ _
        rw [List.take_succ_eq_append_getElem hlt]
        exact List.mem_append_right _ (List.mem_singleton.2 rfl)
      have HNO : Hid (¬ (IdOk l[k].id ∧ m < l[k].id) → ¬ Rising l) := fun h hr => by
        obtain ⟨_, h2, h3⟩ := HRT.out.1 (rising_sub hr (k + 1))
        refine h ⟨h2, ?_⟩
        rcases Nat.eq_zero_or_pos k with e | e
        · rw [HM.out.2.2.2.2 e]; unfold IdOk at h2; omega
        · obtain ⟨y, hy, e2⟩ := HM.out.2.2.2.1 e
          have := h3 y hy
          omega
      clear NA
      generalize l[k] = y at c0 c1 c2 c3' c4 HRT HLST HIN HNO
      have GY := Lib.hid (G.out y.id)
      by_cases hid : IdOk y.id
      · have HID := Lib.hid hid
        rw [decide_eq_true hid] at GY
        clear hid
        by_cases hm : y.id ≤ m
        · have HBAD := Lib.hid (HNO.out fun h => by have := h.2; omega)
          clear HNO
          go_wp2_with fail
          refine (GY.out _).mono ?_
          rintro e w3 ⟨rfl, rfl⟩
          go_wp2
          go_ret
          exact ⟨by rw [HNOT.out HBAD.out]; rfl, HB.out.trans ((Below.refl _ _).alloc HB.out.size _)⟩
        · have HGO : Hid (Rising (l.take (k + 1)) ∧ 0 ≤ y.id ∧ (∀ x ∈ l.take (k + 1), x.id ≤ y.id) ∧ (0 < k + 1 → ∃ x ∈ l.take (k + 1), x.id = y.id) ∧ (k + 1 = 0 → y.id = 0)) := by
            refine ⟨HRT.out.2 ⟨HM.out.1, HID.out, fun x hx => ?_⟩, ?_, fun x hx => ?_, fun _ => ⟨y, HIN.out, rfl⟩, fun h => by omega⟩
            · have := HM.out.2.2.1 x hx; omega
            · have := HM.out.2.1; omega
            · rcases HLST.out x hx with hx | rfl
              · have := HM.out.2.2.1 x hx; omega
              · exact Int.le_refl _
          have HB2 : ∀ o, Hid (Below w.heap.size w (wr.alloc o)) := fun o => HB.out.trans ((Below.refl _ _).alloc HB.out.size _)
          clear HNO
          go_wp2_with fail
          refine (GY.out _).mono ?_
          rintro e w3 ⟨rfl, rfl⟩
          go_wp2
          go_roundw
          case rel => exact ⟨k + 1, y.id, by omega, rfl, rfl, trivial, by go_num, HB2 _, HGO⟩
          case measure => simp [intOf]; omega
      · have HBAD := Lib.hid (HNO.out fun h => hid h.1)
        rw [decide_eq_false hid] at GY
        clear HNO hid
        go_wp2_with fail
        refine (GY.out _).mono ?_
        rintro e w3 ⟨rfl, rfl⟩
        go_wp2
        go_ret
        exact ⟨by rw [HNOT.out HBAD.out]; rfl, HB.out.trans ((Below.refl _ _).alloc HB.out.size _)⟩
    · obtain rfl : k = l.length := by omega
      have hltI : ¬ (l.length : Int) < (l.length : Int) := by omega
      have HE := Lib.hid HM.out.1
      rw [List.take_length] at HE
      go_wp2
      go_ret
      exact ⟨by rw [HYEST.out HE.out]; rfl, HB.out⟩

theorem node_row0 (w : World) (y : NodeV) : (w.alloc (.cells (nodeCells y).toArray 52)).rowIs w.heap.size 52 5 (nodeF y) := node_row w y rfl
theorem V_nil' : V [] [] := ⟨fun _ h => (by cases h), E_nil⟩
/-- A node's text may be. -/
def Written (y : NodeV) : Prop := (y.dir = true → y.text = []) ∧ (y.dir = false → (∃ vs, V y.text vs) ∧ (cps y.text).length ≤ 2000)
set_option maxHeartbeats 1000000 in
set_option maxRecDepth 100000 in
theorem written_any (y : NodeV) (hb : ∀ x ∈ y.text, x < 256) (ht : y.text.length ≤ 1099511627776) (w : World) :
    Calls Tryz.prog 77 #[.agg (nodeCells y).toArray] w fun e w' => e = .returned (.bool (pB (Written y))) ∧ Below w.heap.size w w' := by
  obtain ⟨id, pa, nm, dr, tx⟩ := y
  unfold nodeCells
  obtain ⟨T, HT⟩ : ∃ T, Hid (pB (Written ⟨id, pa, nm, dr, tx⟩) = T) := ⟨_, Lib.hid rfl⟩
  have HNOT : Hid (¬ Written ⟨id, pa, nm, dr, tx⟩ → T = false) := fun h => by rw [← HT.out]; exact pB_no h
  have HYEST : Hid (Written ⟨id, pa, nm, dr, tx⟩ → T = true) := fun h => by rw [← HT.out]; exact pB_yes h
  rw [HT.out]
  unfold Written at HNOT HYEST
  simp only at hb ht HNOT HYEST ⊢
  have HBB := Lib.hid hb
  have GN := Lib.hid (fun (h : ¬ ∃ vs, V tx vs) w => utfCount_no h hb ht w)
  have GY := Lib.hid (fun vs (h : V tx vs) w => utfCount_yes h ht w)
  have HR := Lib.hid (node_row0 w ⟨id, pa, nm, dr, tx⟩)
  unfold nodeCells at HR
  have HBA := Lib.hid ((Below.refl w.heap.size w).alloc (Nat.le_refl _) (.cells #[.int .i64 id, .int .i64 pa, .string (bstr nm), .bool dr, .string (bstr tx)] 52))
  clear hb HT
  cases dr with
  | true =>
    by_cases h0 : tx = []
    · have HE := Lib.hid (HYEST.out ⟨fun _ => h0, fun h => (by cases h)⟩)
      have e0 := empty_yes
      have hv : V [] [] := V_nil'
      subst h0
      have GV := Lib.hid (GY.out [] hv)
      clear HNOT HYEST GN GY hv
      go_enter Tryz.func77, Tryz.ntmps77
      go_wp2_with fail
      refine (GV.out _).mono ?_
      rintro e w3 ⟨rfl, hb⟩
      have HB3 := Lib.hid (hb.mono HBA.out.size)
      obtain ⟨k0, k1, k2, k3, k4⟩ := node_row_at (HR.out.of_block (hb.block _ HR.out.lt))
      clear hb
      simp only at k3 k4
      go_wp2
      go_ret
      exact ⟨by rw [HE.out]; rfl, HBA.out.trans (HB3.out)⟩
    · have HE := Lib.hid (HNOT.out fun h => h0 (h.1 rfl))
      have e0 := empty_no h0
      clear HNOT HYEST h0
      by_cases hv : ∃ vs, V tx vs
      · obtain ⟨vs, hv⟩ := hv
        have GV := Lib.hid (GY.out vs hv)
        clear GN GY hv
        go_enter Tryz.func77, Tryz.ntmps77
        go_wp2_with fail
        refine (GV.out _).mono ?_
        rintro e w3 ⟨rfl, hb⟩
        have HB3 := Lib.hid (hb.mono HBA.out.size)
        obtain ⟨k0, k1, k2, k3, k4⟩ := node_row_at (HR.out.of_block (hb.block _ HR.out.lt))
        clear hb
        simp only at k3 k4
        go_wp2
        go_ret
        exact ⟨by rw [HE.out]; rfl, HBA.out.trans (HB3.out)⟩
      · have GV := Lib.hid (GN.out hv)
        clear GN GY hv
        go_enter Tryz.func77, Tryz.ntmps77
        go_wp2_with fail
        refine (GV.out _).mono ?_
        rintro e w3 ⟨rfl, hb⟩
        have HB3 := Lib.hid (hb.mono HBA.out.size)
        obtain ⟨k0, k1, k2, k3, k4⟩ := node_row_at (HR.out.of_block (hb.block _ HR.out.lt))
        clear hb
        simp only at k3 k4
        go_wp2
        go_ret
        exact ⟨by rw [HE.out]; rfl, HBA.out.trans (HB3.out)⟩
  | false =>
    by_cases hv : ∃ vs, V tx vs
    · obtain ⟨vs, hv⟩ := hv
      have GV := Lib.hid (GY.out vs hv)
      have HC : Hid ((cps tx).length = vs.length) := by show (cps tx).length = _; rw [cps_of hv]
      have HV : Hid (∃ vs, V tx vs) := ⟨vs, hv⟩
      obtain ⟨n, HN⟩ : ∃ n, Hid (vs.length = n) := ⟨_, Lib.hid rfl⟩
      rw [HN.out] at GV HC
      clear GN GY hv
      by_cases hn : n ≤ 2000
      · have HE := Lib.hid (HYEST.out ⟨fun h => (by cases h), fun _ => ⟨HV.out, by rw [HC.out]; exact hn⟩⟩)
        have d0 : decide ((n : Int) ≤ 2000) = true := decide_eq_true (by omega)
        clear HNOT HYEST
        go_enter Tryz.func77, Tryz.ntmps77
        go_wp2_with fail
        refine (GV.out _).mono ?_
        rintro e w3 ⟨rfl, hb⟩
        have HB3 := Lib.hid (hb.mono HBA.out.size)
        obtain ⟨k0, k1, k2, k3, k4⟩ := node_row_at (HR.out.of_block (hb.block _ HR.out.lt))
        clear hb
        simp only at k3 k4
        go_wp2
        go_ret
        exact ⟨by rw [HE.out]; rfl, HBA.out.trans (HB3.out)⟩
      · have HE := Lib.hid (HNOT.out fun h => hn (by have := (h.2 rfl).2; rw [HC.out] at this; exact this))
        have d0 : decide ((n : Int) ≤ 2000) = false := decide_eq_false (by omega)
        clear HNOT HYEST
        go_enter Tryz.func77, Tryz.ntmps77
        go_wp2_with fail
        refine (GV.out _).mono ?_
        rintro e w3 ⟨rfl, hb⟩
        have HB3 := Lib.hid (hb.mono HBA.out.size)
        obtain ⟨k0, k1, k2, k3, k4⟩ := node_row_at (HR.out.of_block (hb.block _ HR.out.lt))
        clear hb
        simp only at k3 k4
        go_wp2
        go_ret
        exact ⟨by rw [HE.out]; rfl, HBA.out.trans (HB3.out)⟩
    · have GV := Lib.hid (GN.out hv)
      have HE := Lib.hid (HNOT.out fun h => hv (h.2 rfl).1)
      clear GN GY hv HNOT HYEST
      go_enter Tryz.func77, Tryz.ntmps77
      go_wp2_with fail
      refine (GV.out _).mono ?_
      rintro e w3 ⟨rfl, hb⟩
      have HB3 := Lib.hid (hb.mono HBA.out.size)
      obtain ⟨k0, k1, k2, k3, k4⟩ := node_row_at (HR.out.of_block (hb.block _ HR.out.lt))
      clear hb
      simp only at k3 k4
      go_wp2
      go_ret
      exact ⟨by rw [HE.out]; rfl, HBA.out.trans (HB3.out)⟩
end Go.Proofs.YtmedaimndaaiiaaGreat
