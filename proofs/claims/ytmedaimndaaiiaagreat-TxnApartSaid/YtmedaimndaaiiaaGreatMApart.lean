/- What a transaction does not touch is as it was; what it names is told, each once, rising: it answers true and changes nothing. No condition. (Merged of 2 texts.) -/
import Derived.Test.YtmedaimndaaiiaaGreatMLand
import Derived.Test.YtmedaimndaaiiaaGreatMTou
import Derived.Test.YtmedaimndaaiiaaGreatMAwk
import Derived.Test.YtmedaimndaaiiaaGreatMArg
import Derived.Test.YtmedaimndaaiiaaGreatMTxm
import Derived.Test.YtmedaimndaaiiaaGreatMSound
import Derived.Test.YtmedaimndaaiiaaGreatMTRefSound
import Derived.BigQuiet
import Derived.Laws.Cover1
import Derived.Test.YtmedaimndaaiiaaGreatMCells
import Derived.ChangeMaps5
/- What a transaction does not touch is as it was; what it names is told, each once, rising: TxnApart answers true and changes nothing. No condition. -/
namespace Go.Proofs.YtmedaimndaaiiaaGreat
open Go.RowKit Go.Deep

theorem box_later5 {w w' : World} {k : Nat} {o : Obj} (h : w.heap[k]? = some o) (hb : Below w.heap.size w w') : w'.heap[k]? = some o := by rw [hb.block k (Array.getElem?_eq_some_iff.1 h).1]; exact h
theorem box_all5 {w : World} {k : Nat} {a b c d e : Value} {t : TypeId} {fr : Nat × Nat} (h : w.heap[k]? = some (.cells #[a, b, c, d, e] t fr)) : w.cell? ⟨k, 0, none⟩ = some a ∧ w.cell? ⟨k, 1, none⟩ = some b ∧ w.cell? ⟨k, 2, none⟩ = some c ∧ w.cell? ⟨k, 3, none⟩ = some d ∧ w.cell? ⟨k, 4, none⟩ = some e :=
  ⟨by rw [Lib.cell_of_heap h]; rfl, by rw [Lib.cell_of_heap h]; rfl, by rw [Lib.cell_of_heap h]; rfl, by rw [Lib.cell_of_heap h]; rfl, by rw [Lib.cell_of_heap h]; rfl⟩
theorem get_in {l : List NodeV} (p : Option Addr) (hm : TreeM l) {y : NodeV} (hy : y ∈ l) (w : World) (h : TPtr w p l) :
    Calls Tryz.prog 26 #[.pointer p, .int .i64 y.id] w fun e w' => e = .returned (.tuple #[.agg (nodeCells y).toArray, .bool true]) ∧ Below w.heap.size w w' := by
  have := get_any p l hm y.id w h
  obtain ⟨k, hk, rfl⟩ := List.getElem_of_mem hy
  rw [getN, srt_find hm.srt hk] at this
  simp only [List.getElem?_eq_getElem hk, Option.getD_some, Option.isSome_some] at this
  exact this
set_option maxHeartbeats 16000000 in
set_option maxRecDepth 100000 in
theorem txnApart_any (A : Option Addr) (l : List NodeV) (c : Nat) (B : Option Addr) (m : List ActV) (d : Nat) (hl : l.length ≤ maxLen) (hg : ∀ y ∈ l, y.Good) (hm : m.length ≤ maxLen) (gg : ∀ y ∈ m, y.Good) (w : World) (hA : NodesC w A c l) (hB : ActsAt w B m ∧ m.length ≤ d) :
    Calls Tryz.prog 6 #[.slice A l.length c, .slice B m.length d] w fun e w' => e = .returned (.bool true) ∧ Below w.heap.size w w' := by
  have GA := Lib.hid (fun w => tawake_any w)
  have GS := Lib.hid (tsmall_any A B c d l m hl hm hg gg w hA.1 hB.1)
  have HNA := Lib.hid (fun (X : World) (h : Below w.heap.size w X) => hA.below h)
  have HAA := Lib.hid (fun (X : World) (h : Below w.heap.size w X) => hB.1.below h)
  have hlc := hA.2
  have HMD := Lib.hid hB.2
  clear hA hB
  cases hsm : smallB l m with
  | false =>
    rw [hsm] at GS
    clear hg gg
    go_enter Tryz.func6, Tryz.ntmps6
    have HB := Lib.hid (Below.refl w.heap.size w)
    go_wp2_with fail
    refine (GS.out).mono ?_
    rintro e x1 ⟨rfl, hb⟩
    replace HB := Lib.hid (HB.out.trans (hb.mono HB.out.size))
    clear hb
    go_wp2_with fail
    refine (GA.out _).mono ?_
    rintro e x3 ⟨rfl, hb⟩
    replace HB := Lib.hid (HB.out.trans (hb.mono HB.out.size))
    clear hb
    go_wp2
    go_ret
    exact ⟨rfl, HB.out⟩

  | true =>
    rw [hsm] at GS
    obtain ⟨hwt, hwa, hm60⟩ := small_yes hsm
    have hslim := wt_slim hwt
    have hgd := nodes_guard hwt
    have GAC := Lib.hid (acts_guard gg hwa)
    clear hsm hwt hwa gg
    have GO := Lib.hid (fun w hA => refSound_any A c l (by omega) hg (fun y hy => by have := (hgd.2 y hy).2; omega) w hA)
    by_cases hS : SoundN l
    · have GL := Lib.hid (fun w hA => load_yes A c l (by omega) hlc hg hslim hS w hA)
      have HM := Lib.hid (TreeM.of hS)
      rw [rSound_yes hS] at GO
      clear hg hS
      have GT := Lib.hid (fun X (h : ActsAt X B m) => txnTouches_any B d m (by omega) X h)
      have HRISE := Lib.hid (tch_rise m)
      obtain ⟨Y, p, u, HV⟩ : ∃ Y p u, Hid (doAllV l m = (Y, p, u)) := ⟨_, _, _, Lib.hid rfl⟩
      have GD := Lib.hid (fun X g (h : TreeAt X g l) (hB : ActsAt X B m) => txnDo_any HM.out g B d m (by unfold maxLen; omega) HMD.out GAC.out X h hB)
      rw [HV.out] at GD
      have HRR : Hid (u = 0 → doR l m 0 = (Y, p, 0)) := Lib.hid (fun h => by
        have e := HV.out
        subst h
        unfold doAllV at e
        split at e
        · rename_i hr
          injection e with _ e
          injection e with _ e
          exact absurd e hr
        · exact e)
      have HMY : Hid (u = 0 → TreeM Y) := Lib.hid (fun h => by
        have e2 := doR_tree (l := m) (i := 0) HM.out (by rw [HRR.out h])
        rw [HRR.out h] at e2
        exact e2)
      have HKEEP1 : Hid (u = 0 → ∀ y ∈ l, y.id ∉ tch m → y ∈ Y) := Lib.hid (fun h y hy hn => by
        have := (doR_keeps (l := m) (T := l) (i := 0) (by rw [HRR.out h])).1 y hy (fun a ha e => hn (by rw [e]; exact tch_id ha))
        rw [HRR.out h] at this
        exact this)
      have HKEEP2 : Hid (u = 0 → ∀ y ∈ Y, y.id ∈ tch m ∨ ∃ z ∈ l, z.id = y.id) := Lib.hid (fun h y hy => by
        have := (doR_keeps (l := m) (T := l) (i := 0) (by rw [HRR.out h])).2 y (by rw [HRR.out h]; exact hy)
        rcases this with ⟨a, ha, e⟩ | g
        · exact .inl (by rw [e]; exact tch_id ha)
        · exact .inr ⟨y, g, rfl⟩)
      clear HV HRR
      have htl : (tch m).length ≤ 120 := by have := tch_len m; omega
      generalize tch m = tl at GT HRISE HKEEP1 HKEEP2 htl
      go_enter Tryz.func6, Tryz.ntmps6
      have HB := Lib.hid (Below.refl w.heap.size w)
      go_wp2_with fail
      refine (GS.out).mono ?_
      rintro e x1 ⟨rfl, hb⟩
      replace HB := Lib.hid (HB.out.trans (hb.mono HB.out.size))
      clear hb
      go_wp2_with fail
      refine (GO.out _ (HNA.out _ HB.out).1).mono ?_
      rintro e x2 ⟨rfl, hb⟩
      replace HB := Lib.hid (HB.out.trans (hb.mono HB.out.size))
      clear hb
      go_wp2_with fail
      refine (GT.out _ (HAA.out _ HB.out)).mono ?_
      rintro e x3 ⟨⟨A5, c5, rfl, hn⟩, hb⟩
      have HNUM : Hid (∀ X : World, Below x3.heap.size x3 X → NumsAt X A5 tl) := Lib.hid (fun X h => hn.below h)
      replace HB := Lib.hid (HB.out.trans (hb.mono HB.out.size))
      clear hb hn
      go_wp2_with fail
      go_loopw [6] (fun s6 wr => ∃ k : Nat, (k + 1 ≤ tl.length ∨ k = 0) ∧ s6 = .int .i64 ((k + 1 : Nat) : Int) ∧ Hid (Below x3.heap.size x3 wr) ∧ Hid (Below w.heap.size w wr)) (fun s6 _ => tl.length - (intOf s6).toNat)
      case atStart => exact ⟨0, .inr rfl, rfl, Lib.hid (Below.refl _ _), HB⟩
      case round =>
        clear HB
        obtain ⟨k, hk, rfl, HD, HB⟩ := hrel
        by_cases hlt : k + 1 < tl.length
        · obtain ⟨gi, oi, rfl, _⟩ := (HNUM.out _ (Below.refl _ _)).form (by omega)
          have hlI : ((k + 1 : Nat) : Int) < (tl.length : Int) := by omega
          have hlJ : ((k + 1 : Nat) : Int) - 1 = (k : Int) := by omega
          have hlK : (k : Int) < (tl.length : Int) := by omega
          have hk0 : (0 : Int) ≤ (k : Int) := by omega
          have hrise := List.pairwise_iff_getElem.1 HRISE.out k (k + 1) (by omega) hlt (by omega)
          have HV1 : Hid (∀ X : World, Below x3.heap.size x3 X → X.cell? ⟨gi, oi + k, none⟩ = some (.int .i64 tl[k])) := Lib.hid (fun X h => (HNUM.out X h).get (by omega))
          have HV2 : Hid (∀ X : World, Below x3.heap.size x3 X → X.cell? ⟨gi, oi + (k + 1), none⟩ = some (.int .i64 tl[k + 1])) := Lib.hid (fun X h => (HNUM.out X h).get hlt)
          generalize tl[k] = p1 at HV1 hrise
          generalize tl[k + 1] = p2 at HV2 hrise
          have d1 : decide (p2 ≤ p1) = false := decide_eq_false (by omega)
          have HDD := Lib.hid (Below.drew HD.out)
          have HBD := Lib.hid (Below.drew HB.out)
          go_wp2_with fail
          refine wp_region_lit [(0, true), (1, true), (2, true), (3, true), (4, true), (5, true), (6, true), (7, true), (8, true), (9, true)] (by kernel_rfl) (by kernel_rfl) (fun _ _ d _ _ h => by cases d <;> exact h) ?_
          simp only [picked, List.map_cons, List.map_nil, List.getElem?_cons_succ, List.getElem?_cons_zero, Option.getD_some]
          have q0 := fun e : Ext wr.drew => HV1.out e.val (HDD.out.trans (e.property.mono HDD.out.size))
          have q1 := fun e : Ext wr.drew => HV2.out e.val (HDD.out.trans (e.property.mono HDD.out.size))
          repeat (first | (refine wpL_quiet (by rfl) (fun K hK => ?_); go_big_quiet_op; refine hK _ ?_; clear hK K) | (refine wpL_skip (by rfl) ?_; simp only [Act.put, List.setIfInBounds_toArray, List.set_cons_zero, List.set_cons_succ]) | (simp only [d1, Bool.not_true, Bool.not_false, Bool.or_false, Bool.false_or, Bool.true_or, Bool.or_true, Bool.false_and, Bool.true_and, Bool.and_true, Bool.and_false]))
          refine wpL_nil ?_
          go_wp2
          go_roundw
          case rel => exact ⟨k + 1, .inl (by omega), by go_num, HDD, HBD⟩
          case measure => simp [intOf]; omega
        · have hlI : ¬ ((k + 1 : Nat) : Int) < (tl.length : Int) := by omega
          obtain ⟨w4, hw4⟩ : ∃ y, y = wr := ⟨wr, rfl⟩
          subst hw4
          go_wp2_with fail
          refine (GL.out _ (HNA.out _ HB.out).1).mono ?_
          rintro e x4 ⟨g, rfl, hgw, ht, hb⟩
          have HT := Lib.hid ht
          replace HD := Lib.hid (HD.out.trans (hb.mono HD.out.size))
          replace HB := Lib.hid (HB.out.trans (hb.mono HB.out.size))
          clear hb ht hgw
          go_wp2_with fail
          refine (GD.out _ g HT.out (HAA.out _ HB.out)).mono ?_
          rintro e x5 ⟨⟨y, rfl, hy0, hy1⟩, hb⟩
          have HY0 := Lib.hid hy0
          have HY1 := Lib.hid hy1
          replace HD := Lib.hid (HD.out.trans (hb.mono HD.out.size))
          replace HB := Lib.hid (HB.out.trans (hb.mono HB.out.size))
          clear hb hy0 hy1 GD HT
          by_cases hu : u = 0
          rotate_left
          · obtain rfl := HY1.out hu
            have hun : (u != 0) = true := by simpa using hu
            clear HY0 HY1 hu
            go_wp2_with fail
            refine (GA.out _).mono ?_
            rintro e x6 ⟨rfl, hb⟩
            replace HB := Lib.hid (HB.out.trans (hb.mono HB.out.size))
            clear hb
            go_wp2
            go_ret
            exact ⟨rfl, HB.out⟩
          obtain ⟨g2, hyg, _, ht2⟩ := HY0.out hu
          have HTY := Lib.hid ht2
          have HMY2 := Lib.hid (HMY.out hu)
          have HK1 := Lib.hid (HKEEP1.out hu)
          have HK2 := Lib.hid (HKEEP2.out hu)
          subst hyg
          subst hu
          clear HY0 HY1 ht2 HMY HKEEP1 HKEEP2
          go_wp2_with fail
          go_loopw [12, 13, 14, 15, 16] (fun s12 s13 s14 s15 s16 wr => ∃ k : Nat, k ≤ l.length ∧ s12 = .int .i64 (k : Int) ∧ s13 = s13 ∧ s14 = s14 ∧ s15 = s15 ∧ s16 = s16 ∧ Hid (TreeAt wr g2 Y) ∧ Hid (Below x3.heap.size x3 wr) ∧ Hid (Below w.heap.size w wr)) (fun s12 _ _ _ _ _ => l.length - (intOf s12).toNat)
          case atStart => exact ⟨0, Nat.zero_le _, rfl, rfl, rfl, rfl, rfl, HTY, HD, HB⟩
          case round =>
            clear HTY HD HB
            obtain ⟨k, hk, rfl, _, _, _, _, HTY, HD, HB⟩ := hrel
            obtain ⟨w5, hw5⟩ : ∃ y, y = wr := ⟨wr, rfl⟩
            subst hw5
            by_cases hlt : k < l.length
            · obtain ⟨b, off, rfl, _⟩ := (HNA.out _ (Below.refl _ _)).1.form (by omega)
              have hlI : (k : Int) < (l.length : Int) := by omega
              have HY5 : Hid (∀ X : World, Below w.heap.size w X → X.cell? ⟨b, off + k * 5, none⟩ = some (.int .i64 l[k].id) ∧ X.cell? ⟨b, off + k * 5 + 1, none⟩ = some (.int .i64 l[k].parent) ∧ X.cell? ⟨b, off + k * 5 + 2, none⟩ = some (.string (bstr l[k].name)) ∧ X.cell? ⟨b, off + k * 5 + 3, none⟩ = some (.bool l[k].dir) ∧ X.cell? ⟨b, off + k * 5 + 4, none⟩ = some (.string (bstr l[k].text))) := Lib.hid (fun X h => (HNA.out X h).1.at_ hlt)
              have HIN : Hid ((∀ (i : Nat) (h : i < tl.length), tl[i] ≠ l[k].id) → l[k] ∈ Y) := Lib.hid (fun h => HK1.out _ (List.getElem_mem hlt) (fun g => by
                obtain ⟨i, hi, e⟩ := List.getElem_of_mem g
                exact h i hi e))
              have GG := Lib.hid (fun X (h : TreeAt X g2 Y) => get_any (some ⟨g2, 0, none⟩) Y HMY2.out l[k].id X h.ptr)
              have GM := Lib.hid (fun (hm : l[k] ∈ Y) X (h : TreeAt X g2 Y) => get_in (some ⟨g2, 0, none⟩) HMY2.out hm X h.ptr)
              generalize l[k] = yy at HY5 HIN GG GM
              obtain ⟨yi, yp, yn, yd, yt⟩ := yy
              simp only at HY5 HIN GG GM
              have HYI : Hid (∀ X : World, Below w.heap.size w X → X.cell? ⟨b, off + k * 5, none⟩ = some (.int .i64 yi)) := Lib.hid (fun X h => (HY5.out X h).1)
              go_wp2_with fail
              go_loopw [13, 14] (fun sn si wr => ∃ (j : Nat) (nb : Bool), j ≤ tl.length ∧ sn = .bool nb ∧ si = .int .i64 (j : Int) ∧ Hid (nb = false → ∀ (i : Nat) (h : i < tl.length), i < j → tl[i] ≠ yi) ∧ Hid (TreeAt wr g2 Y) ∧ Hid (Below x3.heap.size x3 wr) ∧ Hid (Below w.heap.size w wr)) (fun _ si _ => tl.length - (intOf si).toNat)
              case atStart => exact ⟨0, false, Nat.zero_le _, rfl, rfl, Lib.hid (fun _ i h hi => by omega), HTY, HD, HB⟩
              case round =>
                clear HTY HD HB
                obtain ⟨j, nb, hj, rfl, rfl, HN, HTY, HD, HB⟩ := hrel
                by_cases hlt2 : j < tl.length
                · obtain ⟨gi, oi, rfl, _⟩ := (HNUM.out _ (Below.refl _ _)).form (by omega)
                  have hjI : (j : Int) < (tl.length : Int) := by omega
                  have HDD := Lib.hid (Below.drew HD.out)
                  have HBD := Lib.hid (Below.drew HB.out)
                  have HTYD := Lib.hid HTY.out.drew
                  obtain ⟨x, HXJ⟩ : ∃ x, Hid (tl[j] = x) := ⟨_, Lib.hid rfl⟩
                  have HV1 : Hid (∀ X : World, Below x3.heap.size x3 X → X.cell? ⟨gi, oi + j, none⟩ = some (.int .i64 x)) := Lib.hid (fun X h => by rw [← HXJ.out]; exact (HNUM.out X h).get hlt2)
                  cases nb with
                  | true =>
                    have HN2 : Hid (true = false → ∀ (i : Nat) (h : i < tl.length), i < j + 1 → tl[i] ≠ yi) := Lib.hid (fun h => by cases h)
                    go_wp2_with fail
                    refine wp_region_lit [(0, true), (1, true), (2, true), (3, true), (4, true), (5, true), (6, true), (7, true), (8, true), (9, true), (10, true), (11, true), (12, true), (13, true)] (by kernel_rfl) (by kernel_rfl) (fun _ _ d _ _ h => by cases d <;> exact h) ?_
                    simp only [picked, List.map_cons, List.map_nil, List.getElem?_cons_succ, List.getElem?_cons_zero, Option.getD_some]
                    repeat (first | (refine wpL_quiet (by rfl) (fun K hK => ?_); go_big_quiet_op; refine hK _ ?_; clear hK K) | (refine wpL_skip (by rfl) ?_; simp only [Act.put, List.setIfInBounds_toArray, List.set_cons_zero, List.set_cons_succ]) | (simp only [Bool.not_true, Bool.not_false, Bool.or_false, Bool.false_or, Bool.true_or, Bool.or_true, Bool.false_and, Bool.true_and, Bool.and_true, Bool.and_false]))
                    refine wpL_nil ?_
                    go_wp2
                    go_roundw
                    case rel => exact ⟨j + 1, true, by omega, rfl, by go_num, HN2, HTYD, HDD, HBD⟩
                    case measure => simp [intOf]; omega
                  | false =>
                    by_cases hxe : x = yi
                    · have d1 : (x == yi) = true := by rw [hxe]; simp
                      have HN2 : Hid (true = false → ∀ (i : Nat) (h : i < tl.length), i < j + 1 → tl[i] ≠ yi) := Lib.hid (fun h => by cases h)
                      clear HN hxe
                      go_wp2_with fail
                      refine wp_region_lit [(0, true), (1, true), (2, true), (3, true), (4, true), (5, true), (6, true), (7, true), (8, true), (9, true), (10, true), (11, true), (12, true), (13, true)] (by kernel_rfl) (by kernel_rfl) (fun _ _ d _ _ h => by cases d <;> exact h) ?_
                      simp only [picked, List.map_cons, List.map_nil, List.getElem?_cons_succ, List.getElem?_cons_zero, Option.getD_some]
                      have q0 := fun e : Ext wr.drew => HV1.out e.val (HDD.out.trans (e.property.mono HDD.out.size))
                      have q1 := fun e : Ext wr.drew => HYI.out e.val (HBD.out.trans (e.property.mono HBD.out.size))
                      repeat (first | (refine wpL_quiet (by rfl) (fun K hK => ?_); go_big_quiet_op; refine hK _ ?_; clear hK K) | (refine wpL_skip (by rfl) ?_; simp only [Act.put, List.setIfInBounds_toArray, List.set_cons_zero, List.set_cons_succ]) | (simp only [d1, Bool.not_true, Bool.not_false, Bool.or_false, Bool.false_or, Bool.true_or, Bool.or_true, Bool.false_and, Bool.true_and, Bool.and_true, Bool.and_false]))
                      refine wpL_nil ?_
                      go_wp2
                      go_roundw
                      case rel => exact ⟨j + 1, true, by omega, rfl, by go_num, HN2, HTYD, HDD, HBD⟩
                      case measure => simp [intOf]; omega
                    · have d1 : (x == yi) = false := beq_eq_false_iff_ne.2 hxe
                      have HN2 : Hid (false = false → ∀ (i : Nat) (h : i < tl.length), i < j + 1 → tl[i] ≠ yi) := Lib.hid (fun _ i h hi => by
                        rcases Nat.lt_or_ge i j with g | g
                        · exact HN.out rfl i h g
                        · obtain rfl : i = j := by omega
                          rw [HXJ.out]
                          exact hxe)
                      clear HN hxe
                      go_wp2_with fail
                      refine wp_region_lit [(0, true), (1, true), (2, true), (3, true), (4, true), (5, true), (6, true), (7, true), (8, true), (9, true), (10, true), (11, true), (12, true), (13, true)] (by kernel_rfl) (by kernel_rfl) (fun _ _ d _ _ h => by cases d <;> exact h) ?_
                      simp only [picked, List.map_cons, List.map_nil, List.getElem?_cons_succ, List.getElem?_cons_zero, Option.getD_some]
                      have q0 := fun e : Ext wr.drew => HV1.out e.val (HDD.out.trans (e.property.mono HDD.out.size))
                      have q1 := fun e : Ext wr.drew => HYI.out e.val (HBD.out.trans (e.property.mono HBD.out.size))
                      repeat (first | (refine wpL_quiet (by rfl) (fun K hK => ?_); go_big_quiet_op; refine hK _ ?_; clear hK K) | (refine wpL_skip (by rfl) ?_; simp only [Act.put, List.setIfInBounds_toArray, List.set_cons_zero, List.set_cons_succ]) | (simp only [d1, Bool.not_true, Bool.not_false, Bool.or_false, Bool.false_or, Bool.true_or, Bool.or_true, Bool.false_and, Bool.true_and, Bool.and_true, Bool.and_false]))
                      refine wpL_nil ?_
                      go_wp2
                      go_roundw
                      case rel => exact ⟨j + 1, false, by omega, rfl, by go_num, (Lib.hid (fun _ => HN2.out trivial)), HTYD, HDD, HBD⟩
                      case measure => simp [intOf]; omega
                · obtain rfl : j = tl.length := by omega
                  obtain ⟨w6, hw6⟩ : ∃ y, y = wr := ⟨wr, rfl⟩
                  subst hw6
                  have HN2 : Hid (nb = false → ∀ (i : Nat) (h : i < tl.length), tl[i] ≠ yi) := Lib.hid (fun h i hi => HN.out h i hi hi)
                  clear HN
                  have z0 := (HY5.out _ HB.out).1
                  cases nb with
                  | true =>
                    generalize getN Y yi = nn at GG
                    generalize (rFind Y yi).isSome = ok at GG
                    unfold nodeCells at GG
                    clear GM
                    go_wp2_with fail
                    refine (GG.out _ HTY.out).mono ?_
                    rintro e x7 ⟨rfl, hb⟩
                    have HTY7 := Lib.hid (HTY.out.below hb)
                    have HD7 := Lib.hid (HD.out.trans (hb.mono HD.out.size))
                    have HB7 := Lib.hid (HB.out.trans (hb.mono HB.out.size))
                    clear hb z0
                    have hbl := (Below.refl x7.heap.size x7).alloc (Nat.le_refl _) (.cells #[.int .i64 nn.id, .int .i64 nn.parent, .string (bstr nn.name), .bool nn.dir, .string (bstr nn.text)] 52)
                    have HTY8 := Lib.hid (HTY7.out.below hbl).drew
                    have HD8 := Lib.hid (Below.drew (HD7.out.trans (hbl.mono HD7.out.size)))
                    have HB8 := Lib.hid (Below.drew (HB7.out.trans (hbl.mono HB7.out.size)))
                    clear hbl
                    go_wp2_with fail
                    refine wp_region_lit [(0, true), (1, true), (2, true), (3, true), (4, true), (5, true), (6, true), (7, true), (8, true), (9, true), (10, true), (11, true), (12, true), (13, true)] (by kernel_rfl) (by kernel_rfl) (fun _ _ d _ _ h => by cases d <;> exact h) ?_
                    simp only [picked, List.map_cons, List.map_nil, List.getElem?_cons_succ, List.getElem?_cons_zero, Option.getD_some]
                    repeat (first | (refine wpL_quiet (by rfl) (fun K hK => ?_); go_big_quiet_op; refine hK _ ?_; clear hK K) | (refine wpL_skip (by rfl) ?_; simp only [Act.put, List.setIfInBounds_toArray, List.set_cons_zero, List.set_cons_succ]) | (simp only [Bool.not_true, Bool.not_false, Bool.or_false, Bool.false_or, Bool.true_or, Bool.or_true, Bool.false_and, Bool.true_and, Bool.and_true, Bool.and_false]))
                    refine wpL_nil ?_
                    go_wp2
                    go_roundw
                    case rel => exact ⟨k + 1, by omega, by go_num, trivial, trivial, trivial, trivial, HTY8, HD8, HB8⟩
                    case measure => simp [intOf]; omega
                  | false =>
                    have hmem := HIN.out (HN2.out rfl)
                    have GM2 := Lib.hid (GM.out hmem)
                    unfold nodeCells at GM2
                    clear hmem GG GM
                    go_wp2_with fail
                    refine (GM2.out _ HTY.out).mono ?_
                    rintro e x7 ⟨rfl, hb⟩
                    have HTY7 := Lib.hid (HTY.out.below hb)
                    have HD7 := Lib.hid (HD.out.trans (hb.mono HD.out.size))
                    have HB7 := Lib.hid (HB.out.trans (hb.mono HB.out.size))
                    clear hb z0
                    have HBX := Lib.hid (heap_alloc_new x7 (.cells #[.int .i64 yi, .int .i64 yp, .string (bstr yn), .bool yd, .string (bstr yt)] 52))
                    have hbl := (Below.refl x7.heap.size x7).alloc (Nat.le_refl _) (.cells #[.int .i64 yi, .int .i64 yp, .string (bstr yn), .bool yd, .string (bstr yt)] 52)
                    have HTY8 := Lib.hid (HTY7.out.below hbl).drew
                    have HD8 := Lib.hid (Below.drew (HD7.out.trans (hbl.mono HD7.out.size)))
                    have HB8 := Lib.hid (Below.drew (HB7.out.trans (hbl.mono HB7.out.size)))
                    clear hbl
                    go_wp2_with fail
                    generalize hwv : x7.alloc (.cells #[.int .i64 yi, .int .i64 yp, .string (bstr yn), .bool yd, .string (bstr yt)] 52) = wv at HBX HTY8 HD8 HB8 ⊢
                    clear hwv
                    refine wp_region_lit [(0, true), (1, true), (2, true), (3, true), (4, true), (5, true), (6, true), (7, true), (8, true), (9, true), (10, true), (11, true), (12, true), (13, true)] (by kernel_rfl) (by kernel_rfl) (fun _ _ d _ _ h => by cases d <;> exact h) ?_
                    simp only [picked, List.map_cons, List.map_nil, List.getElem?_cons_succ, List.getElem?_cons_zero, Option.getD_some]
                    have HBXD : Hid (wv.drew.heap[x7.heap.size]? = some (.cells #[.int .i64 yi, .int .i64 yp, .string (bstr yn), .bool yd, .string (bstr yt)] 52 (0, 0))) := Lib.hid HBX.out
                    generalize wv.drew = wd at HTY8 HD8 HB8 HBXD ⊢
                    have q0 := fun e : Ext wd => (HY5.out e.val (HB8.out.trans (e.property.mono HB8.out.size))).1
                    have q1 := fun e : Ext wd => (HY5.out e.val (HB8.out.trans (e.property.mono HB8.out.size))).2.1
                    have q2 := fun e : Ext wd => (HY5.out e.val (HB8.out.trans (e.property.mono HB8.out.size))).2.2.1
                    have q3 := fun e : Ext wd => (HY5.out e.val (HB8.out.trans (e.property.mono HB8.out.size))).2.2.2.1
                    have q4 := fun e : Ext wd => (HY5.out e.val (HB8.out.trans (e.property.mono HB8.out.size))).2.2.2.2
                    have u0 := fun e : Ext wd => (box_all5 (box_later5 HBXD.out e.property)).1
                    have u1 := fun e : Ext wd => (box_all5 (box_later5 HBXD.out e.property)).2.1
                    have u2 := fun e : Ext wd => (box_all5 (box_later5 HBXD.out e.property)).2.2.1
                    have u3 := fun e : Ext wd => (box_all5 (box_later5 HBXD.out e.property)).2.2.2.1
                    have u4 := fun e : Ext wd => (box_all5 (box_later5 HBXD.out e.property)).2.2.2.2
                    repeat (first | (refine wpL_quiet (by rfl) (fun K hK => ?_); go_big_quiet_op; refine hK _ ?_; clear hK K) | (refine wpL_skip (by rfl) ?_; simp only [Act.put, List.setIfInBounds_toArray, List.set_cons_zero, List.set_cons_succ]) | (simp only [Bool.not_true, Bool.not_false, Bool.or_false, Bool.false_or, Bool.true_or, Bool.or_true, Bool.false_and, Bool.true_and, Bool.and_true, Bool.and_false]))
                    refine wpL_nil ?_
                    go_wp2
                    go_roundw
                    case rel => exact ⟨k + 1, by omega, by go_num, trivial, trivial, trivial, trivial, HTY8, HD8, HB8⟩
                    case measure => simp [intOf]; omega
            · obtain rfl : k = l.length := by omega
              have GN := Lib.hid (fun X (h : TreeAt X g2 Y) => nodes_any (some ⟨g2, 0, none⟩) Y (by have := HMY2.out.len; omega) HMY2.out.slim X h.ptr)
              go_wp2_with fail
              refine (GN.out _ HTY.out).mono ?_
              rintro e x9 ⟨A9, c9, rfl, hn, hb⟩
              have HNY := Lib.hid hn.nodes.1
              replace HTY := Lib.hid (HTY.out.below hb)
              replace HD := Lib.hid (HD.out.trans (hb.mono HD.out.size))
              replace HB := Lib.hid (HB.out.trans (hb.mono HB.out.size))
              clear hb hn GN
              have hYl := HMY2.out.len
              go_wp2_with fail
              go_loopw [18, 19, 20] (fun s18 s19 s20 wr => ∃ k : Nat, k ≤ Y.length ∧ s18 = .int .i64 (k : Int) ∧ s19 = s19 ∧ s20 = s20 ∧ Hid (TreeAt wr g2 Y) ∧ Hid (Below x3.heap.size x3 wr) ∧ Hid (Below w.heap.size w wr) ∧ Hid (Below x9.heap.size x9 wr)) (fun s18 _ _ _ => Y.length - (intOf s18).toNat)
              case atStart => exact ⟨0, Nat.zero_le _, rfl, rfl, rfl, HTY, HD, HB, Lib.hid (Below.refl _ _)⟩
              case round =>
                clear HTY HD HB
                obtain ⟨k4, hk4, rfl, _, _, HTY, HD, HB, HE⟩ := hrel
                obtain ⟨w6, hw6⟩ : ∃ y, y = wr := ⟨wr, rfl⟩
                subst hw6
                by_cases hlt4 : k4 < Y.length
                · obtain ⟨b4, off4, rfl, _⟩ := HNY.out.form (by omega)
                  have hlI : (k4 : Int) < (Y.length : Int) := by omega
                  have HYI0 : Hid (∀ X : World, Below x9.heap.size x9 X → X.cell? ⟨b4, off4 + k4 * 5, none⟩ = some (.int .i64 Y[k4].id)) := Lib.hid (fun X h => ((HNY.out.below h).at_ hlt4).1)
                  have HNAM : Hid (rFind l Y[k4].id = none → ∃ (i : Nat) (h : i < tl.length), i < tl.length ∧ tl[i] = Y[k4].id) := Lib.hid (fun h => by
                    rcases HK2.out _ (List.getElem_mem hlt4) with g | ⟨z, hz, e⟩
                    · obtain ⟨i, hi, e⟩ := List.getElem_of_mem g
                      exact ⟨i, hi, hi, e⟩
                    · exact absurd e (rFind_none h z hz))
                  generalize Y[k4].id = yi at HYI0 HNAM
                  have HYI := HYI0
                  clear HYI0
                  have GF := Lib.hid (fun X (h : NodesAt X A l) => refFind_any A c l yi (by unfold maxLen; omega) X h)
                  have z0 := HYI.out _ HE.out
                  obtain ⟨fi, HFI⟩ : ∃ fi, Hid (findI (rFind l yi) = fi) := ⟨_, Lib.hid rfl⟩
                  rw [HFI.out] at GF
                  obtain ⟨nb0, HNB0⟩ : ∃ nb0, Hid (decide (0 ≤ fi) = nb0) := ⟨_, Lib.hid rfl⟩
                  have HNM2 : Hid (nb0 = true ∨ ∃ (i : Nat) (h : i < tl.length), i < tl.length ∧ tl[i] = yi) := Lib.hid (by
                    cases hf : rFind l yi with
                    | none => exact .inr (HNAM.out hf)
                    | some q => exact .inl (by rw [← HNB0.out, ← HFI.out, hf]; exact decide_eq_true (Int.natCast_nonneg q)))
                  go_wp2_with fail
                  refine (GF.out _ (HNA.out _ HB.out).1).mono ?_
                  rintro e x10 ⟨rfl, rfl⟩
                  have hnb := HNB0.out
                  go_wp2_with fail
                  go_loopw [19, 20] (fun sn si wr => ∃ (j : Nat) (nb : Bool), j ≤ tl.length ∧ sn = .bool nb ∧ si = .int .i64 (j : Int) ∧ Hid ((nb0 = true ∨ ∃ (i : Nat) (h : i < tl.length), i < j ∧ tl[i] = yi) → nb = true) ∧ Hid (TreeAt wr g2 Y) ∧ Hid (Below x3.heap.size x3 wr) ∧ Hid (Below w.heap.size w wr) ∧ Hid (Below x9.heap.size x9 wr)) (fun _ si _ => tl.length - (intOf si).toNat)
                  case atStart => exact ⟨0, nb0, Nat.zero_le _, rfl, rfl, Lib.hid (fun h => by rcases h with h | ⟨i, _, hi, _⟩; exact h; omega), HTY, HD, HB, HE⟩
                  case round =>
                    clear HTY HD HB HE
                    obtain ⟨j, nb, hj, rfl, rfl, HN, HTY, HD, HB, HE⟩ := hrel
                    by_cases hlt2 : j < tl.length
                    · obtain ⟨gi, oi, rfl, _⟩ := (HNUM.out _ (Below.refl _ _)).form (by omega)
                      have hjI : (j : Int) < (tl.length : Int) := by omega
                      have HDD := Lib.hid (Below.drew HD.out)
                      have HBD := Lib.hid (Below.drew HB.out)
                      have HTYD := Lib.hid HTY.out.drew
                      have HED := Lib.hid (Below.drew HE.out)
                      obtain ⟨x, HXJ⟩ : ∃ x, Hid (tl[j] = x) := ⟨_, Lib.hid rfl⟩
                      have HV1 : Hid (∀ X : World, Below x3.heap.size x3 X → X.cell? ⟨gi, oi + j, none⟩ = some (.int .i64 x)) := Lib.hid (fun X h => by rw [← HXJ.out]; exact (HNUM.out X h).get hlt2)
                      cases nb with
                      | true =>
                        have HN2 : Hid ((nb0 = true ∨ ∃ (i : Nat) (h : i < tl.length), i < j + 1 ∧ tl[i] = yi) → true = true) := Lib.hid (fun _ => rfl)
                        go_wp2_with fail
                        refine wp_region_lit [(0, true), (1, true), (2, true), (3, true), (4, true), (5, true), (6, true), (7, true), (8, true), (9, true), (10, true), (11, true), (12, true), (13, true)] (by kernel_rfl) (by kernel_rfl) (fun _ _ d _ _ h => by cases d <;> exact h) ?_
                        simp only [picked, List.map_cons, List.map_nil, List.getElem?_cons_succ, List.getElem?_cons_zero, Option.getD_some]
                        repeat (first | (refine wpL_quiet (by rfl) (fun K hK => ?_); go_big_quiet_op; refine hK _ ?_; clear hK K) | (refine wpL_skip (by rfl) ?_; simp only [Act.put, List.setIfInBounds_toArray, List.set_cons_zero, List.set_cons_succ]) | (simp only [Bool.not_true, Bool.not_false, Bool.or_false, Bool.false_or, Bool.true_or, Bool.or_true, Bool.false_and, Bool.true_and, Bool.and_true, Bool.and_false]))
                        refine wpL_nil ?_
                        go_wp2
                        go_roundw
                        case rel => exact ⟨j + 1, true, by omega, rfl, by go_num, (Lib.hid (fun _ => rfl)), HTYD, HDD, HBD, HED⟩
                        case measure => simp [intOf]; omega
                      | false =>
                        by_cases hxe : x = yi
                        · have d1 : (x == yi) = true := by rw [hxe]; simp
                          have HN2 : Hid ((nb0 = true ∨ ∃ (i : Nat) (h : i < tl.length), i < j + 1 ∧ tl[i] = yi) → true = true) := Lib.hid (fun _ => rfl)
                          clear HN hxe
                          go_wp2_with fail
                          refine wp_region_lit [(0, true), (1, true), (2, true), (3, true), (4, true), (5, true), (6, true), (7, true), (8, true), (9, true), (10, true), (11, true), (12, true), (13, true)] (by kernel_rfl) (by kernel_rfl) (fun _ _ d _ _ h => by cases d <;> exact h) ?_
                          simp only [picked, List.map_cons, List.map_nil, List.getElem?_cons_succ, List.getElem?_cons_zero, Option.getD_some]
                          have q0 := fun e : Ext wr.drew => HV1.out e.val (HDD.out.trans (e.property.mono HDD.out.size))
                          have q1 := fun e : Ext wr.drew => HYI.out e.val (HED.out.trans (e.property.mono HED.out.size))
                          repeat (first | (refine wpL_quiet (by rfl) (fun K hK => ?_); go_big_quiet_op; refine hK _ ?_; clear hK K) | (refine wpL_skip (by rfl) ?_; simp only [Act.put, List.setIfInBounds_toArray, List.set_cons_zero, List.set_cons_succ]) | (simp only [d1, Bool.not_true, Bool.not_false, Bool.or_false, Bool.false_or, Bool.true_or, Bool.or_true, Bool.false_and, Bool.true_and, Bool.and_true, Bool.and_false]))
                          refine wpL_nil ?_
                          go_wp2
                          go_roundw
                          case rel => exact ⟨j + 1, true, by omega, rfl, by go_num, (Lib.hid (fun _ => rfl)), HTYD, HDD, HBD, HED⟩
                          case measure => simp [intOf]; omega
                        · have d1 : (x == yi) = false := beq_eq_false_iff_ne.2 hxe
                          have HN2 : Hid ((nb0 = true ∨ ∃ (i : Nat) (h : i < tl.length), i < j + 1 ∧ tl[i] = yi) → false = true) := Lib.hid (fun h => by
                            refine HN.out ?_
                            rcases h with h | ⟨i, hi, hij, e⟩
                            · exact .inl h
                            · rcases Nat.lt_or_ge i j with g | g
                              · exact .inr ⟨i, hi, g, e⟩
                              · obtain rfl : i = j := by omega
                                rw [HXJ.out] at e
                                exact absurd e hxe)
                          clear HN hxe
                          go_wp2_with fail
                          refine wp_region_lit [(0, true), (1, true), (2, true), (3, true), (4, true), (5, true), (6, true), (7, true), (8, true), (9, true), (10, true), (11, true), (12, true), (13, true)] (by kernel_rfl) (by kernel_rfl) (fun _ _ d _ _ h => by cases d <;> exact h) ?_
                          simp only [picked, List.map_cons, List.map_nil, List.getElem?_cons_succ, List.getElem?_cons_zero, Option.getD_some]
                          have q0 := fun e : Ext wr.drew => HV1.out e.val (HDD.out.trans (e.property.mono HDD.out.size))
                          have q1 := fun e : Ext wr.drew => HYI.out e.val (HED.out.trans (e.property.mono HED.out.size))
                          repeat (first | (refine wpL_quiet (by rfl) (fun K hK => ?_); go_big_quiet_op; refine hK _ ?_; clear hK K) | (refine wpL_skip (by rfl) ?_; simp only [Act.put, List.setIfInBounds_toArray, List.set_cons_zero, List.set_cons_succ]) | (simp only [d1, Bool.not_true, Bool.not_false, Bool.or_false, Bool.false_or, Bool.true_or, Bool.or_true, Bool.false_and, Bool.true_and, Bool.and_true, Bool.and_false]))
                          refine wpL_nil ?_
                          go_wp2
                          go_roundw
                          case rel => exact ⟨j + 1, false, by omega, rfl, by go_num, HN2, HTYD, HDD, HBD, HED⟩
                          case measure => simp [intOf]; omega
                    · obtain rfl : j = tl.length := by omega
                      obtain ⟨w7, hw7⟩ : ∃ y, y = wr := ⟨wr, rfl⟩
                      subst hw7
                      have HNT : Hid (nb = true) := Lib.hid (HN.out HNM2.out)
                      obtain rfl := HNT.out
                      go_wp2_with fail
                      go_roundw
                      case rel => exact ⟨k4 + 1, by omega, by go_num, trivial, trivial, HTY, HD, HB, HE⟩
                      case measure => simp [intOf]; omega
                · obtain rfl : k4 = Y.length := by omega
                  go_wp2_with fail
                  refine (GA.out _).mono ?_
                  rintro e x11 ⟨rfl, hb⟩
                  replace HB := Lib.hid (HB.out.trans (hb.mono HB.out.size))
                  clear hb
                  go_wp2
                  go_ret
                  exact ⟨rfl, HB.out⟩

    · rw [rSound_no hS] at GO
      clear hg hS
      go_enter Tryz.func6, Tryz.ntmps6
      have HB := Lib.hid (Below.refl w.heap.size w)
      go_wp2_with fail
      refine (GS.out).mono ?_
      rintro e x1 ⟨rfl, hb⟩
      replace HB := Lib.hid (HB.out.trans (hb.mono HB.out.size))
      clear hb
      go_wp2_with fail
      refine (GO.out _ (HNA.out _ HB.out).1).mono ?_
      rintro e x2 ⟨rfl, hb⟩
      replace HB := Lib.hid (HB.out.trans (hb.mono HB.out.size))
      clear hb
      go_wp2_with fail
      refine (GA.out _).mono ?_
      rintro e x3 ⟨rfl, hb⟩
      replace HB := Lib.hid (HB.out.trans (hb.mono HB.out.size))
      clear hb
      go_wp2
      go_ret
      exact ⟨rfl, HB.out⟩

end Go.Proofs.YtmedaimndaaiiaaGreat

/- What a transaction does not touch is as it was; what it names is told, each once, rising: it answers true and changes nothing. No condition. -/
namespace Go.Proofs.YtmedaimndaaiiaaGreat
open Go.ChangeShapes Go.WideShapes Go.ChangeAt Go.RowKit

set_option maxRecDepth 100000 in
theorem txnApart_lifted (os : Os) (started : os.Started) (H : Type) (enc : TypeId × Value → H) :
    ReturnsInHanded {} Tryz.checked os 6 .any (Rows.txnApartSpec.pre6 enc Tryz.prog Tryz.f6 Rows.txnApartRow.domain false) (Rows.txnApartSpec.post enc Tryz.prog Tryz.f6 false true false false) := by
  refine returnsInHanded_of_change (C := Tryz.checked) law_own started (by kernel_rfl) Tryz.func6
    (ChangeSpec.witness6 (enc := enc) (C := Tryz.checked) false ⟨#[], #[.slice none 0 0, .slice none 0 0], []⟩ 8 (by kernel_rfl) (by kernel_rfl) (by kernel_rfl) (by kernel_rfl)) ?_
  intro W base args ds gs before hval0 hW _ _
  have hval : ∀ (j : Nat) t v, Tryz.f6.params[j]? = some t → args[j]? = some v → Value.okWide Tryz.prog W .any base t v := hval0
  have hW' := hW
  obtain ⟨p, q, hA0, hV, rfl, _, _⟩ := hW
  have hlt : ∀ x ∈ p ++ q, x.block < W.heap.size := fun x hx => hW'.lt x hx
  have hA : DataW.TrodAll enc Tryz.prog W 0 (fun _ => true) true Tryz.f6.params.toList args.toList ds p := hA0
  rw [Tryz.params6] at hA hval
  obtain ⟨v0, v1, d0, d1, p0, p1, rfl, rfl, rfl, h0, h1⟩ := trodAll_two hA
  obtain ⟨rfl, rfl⟩ := trodVars_none hV
  obtain ⟨A0, l0, c0, rfl, hat0, hg0, hlc0, hc0⟩ := open_nodes (hval 0 38 v0 rfl rfl) h0 (fun x hx => hlt x (by simp [hx]))
  have hl0 : l0.length ≤ maxLen := by omega
  obtain ⟨A1, l1, c1, rfl, hat1, hg1, hlc1, hc1⟩ := open_acts (hval 1 22 v1 rfl rfl) h1 (fun x hx => hlt x (by simp [hx]))
  have hl1 : l1.length ≤ maxLen := by omega
  clear hA0 hval0
  refine (txnApart_any A0 l0 c0 A1 l1 c1 hl0 hg0 hl1 hg1 W ⟨hat0, hlc0⟩ ⟨hat1, hlc1⟩).mono fun e W' ⟨he, hb⟩ => ?_
  exact ⟨_, he, law_post law_laid (by kernel_rfl) (by kernel_rfl) Tryz.underlying4 rfl hW' rfl hb⟩

theorem txnApart_holds : Rows.TxnApartSaid :=
  OpenClaim.holds_of_wide 6 Tryz.f6 rfl rfl rfl rfl rfl rfl rfl ⟨rfl, rfl, rfl, rfl, rfl⟩ rfl rfl rfl rfl rfl (by kernel_rfl) Tryz.func6 (by kernel_rfl)
    (of_decide_eq_true (by kernel_rfl)) (by unfold Func.isWrapper; first | (rw [if_pos (by decide +kernel)]; kernel_rfl) | (rw [if_neg (by decide +kernel)]; exact ⟨rfl, rfl⟩))
    (fun os started H enc _ => txnApart_lifted os started H enc)
end Go.Proofs.YtmedaimndaaiiaaGreat
