/- CodecBack holds: what was written, within the limits, is read as it was, in the same order, and nothing is left: whatever items the law is called with, it answers true and changes nothing. No condition. (Merged of 3 texts.) -/
import Derived.Test.YtkapfijokmajlaaHCodecReads
import Derived.Test.YtkapfijokmajlaaHCodecWrites
import Derived.Test.YtkapfijokmajlaaQBack
import Derived.ChangeMaps5
/- The walk of the law CodecBack: whatever items it is called with, it answers true; what was there stays as it was. No condition beyond lengths of memory. -/
namespace Go.Proofs.Ytkapfijokmajlaa
open Go.RowKit Go.Deep

/-- What is asked of a world in which the reader stands, some items on. -/
def BackAt (w : World) (W1 : World) (g : Nat) (l : List ItemV) (k : Nat) (x : World) : Prop :=
  ∃ M, inks ((l.drop k).map iItem) = (M, false) ∧ RdrAt W1 g (M, 0) x ∧ Below w.heap.size w x ∧ M.length ≤ 1099511627776
theorem RdrAt.upto {W : World} {g : Nat} {s : Rd} {w : World} (h : RdrAt W g s w) : Below W.heap.size W w ∧ W.heap.size ≤ g := by obtain ⟨_, _, _, _, _, _, _, hg, hb⟩ := h; exact ⟨hb, hg⟩

set_option maxHeartbeats 8000000 in
set_option maxRecDepth 100000 in
theorem codecBack_row (b bo cap : Nat) (l : List ItemV) (hl : l.length ≤ maxLen) (hg : ∀ y ∈ l, y.Good) (w : World) (hA : ItemsAt w (some ⟨b, bo, none⟩) l) :
    Calls Try.prog 5 #[.slice (some ⟨b, bo, none⟩) l.length cap] w fun e w' => e = .returned (.bool true) ∧ Below w.heap.size w w' := by
  have GS := Lib.hid (small_at cap hl hg w hA)
  have GA := Lib.hid (fun w => awake_any w)
  have HA := Lib.hid hA; clear hA
  have HG := Lib.hid hg; clear hg
  unfold maxLen at hl
  by_cases hw : itemsWeight l ≤ 3000
  · rw [decide_eq_true hw] at GS
    have GW := Lib.hid (fun w' (hh : ItemsAt w' (some ⟨b, bo, none⟩) l) => written_items cap (items_count l hw) HG.out (by have := roomItems_le l hw; omega) w' hh)
    have GM := Lib.hid (fun w' (hh : ItemsAt w' (some ⟨b, bo, none⟩) l) => made_items cap (items_count l hw) HG.out (by have := roomItems_le l hw; omega) w' hh)
    have HTX := Lib.hid (items_texts l hw)
    have HLE : Hid ((inks (l.map iItem)).1.length ≤ 36000) := Nat.le_trans (inks_length iItem roomItem iItem_length l) (roomItems_le l hw)
    have HBY := Lib.hid (items_bytes HG.out)
    clear hw
    go_enter Try.func5, Try.ntmps5
    go_wp2_with fail
    refine GS.out.mono ?_
    rintro e w1 ⟨rfl, hb1⟩
    have HB1 := Lib.hid hb1; clear hb1
    go_wp2_with fail
    go_loopw [3, 4, 5] (fun i _ _ wr => wr = w1 ∧ ∃ k : Nat, k ≤ l.length ∧ i = .int .i64 k ∧ ∀ q, q < k → ∀ y, l[q]? = some y → Lim y) (fun i _ _ _ => l.length - (intOf i).toNat)
    case atStart => exact ⟨rfl, 0, Nat.zero_le _, rfl, fun q hq => by omega⟩
    case round =>
      obtain ⟨rfl, k, hk, rfl, hlim⟩ := hrel
      have HLIM := Lib.hid hlim; clear hlim
      by_cases hlt : k < l.length
      · have hcells := fun f hf => (HA.out.below HB1.out).at_ hlt f hf
        have hats := (HA.out.below HB1.out).2 _ (List.getElem_mem hlt)
        have hgk := HG.out _ (List.getElem_mem hlt)
        have HKY : Hid (l[k]? = some l[k]) := List.getElem?_eq_getElem hlt
        obtain ⟨Y, HY⟩ : ∃ Y, Hid (l[k] = Y) := ⟨l[k], Lib.hid rfl⟩
        rw [HY.out] at hats HKY hgk
        simp only [HY.out] at hcells
        obtain ⟨yk, yn, ys, yy, cA, cC, cs, aA, aC, as_, nA, nC, ns⟩ := Y
        obtain ⟨_, _, _, _, _, _, hcl, hal, hnl⟩ := hgk
        simp only at hcl hal hnl
        unfold maxLen at hcl hal hnl
        obtain ⟨_, hata, hatn⟩ := hats
        simp only at hata hatn
        have HATA := Lib.hid hata; have HATN := Lib.hid hatn; clear hata hatn
        have q4 : wr.cell? ⟨b, bo + k * 7 + 4, none⟩ = some (.slice cA cs.length cC) := by rw [Nat.add_assoc]; exact hcells 4 (by omega)
        have q5 : wr.cell? ⟨b, bo + k * 7 + 5, none⟩ = some (.slice aA as_.length aC) := by rw [Nat.add_assoc]; exact hcells 5 (by omega)
        have q6 : wr.cell? ⟨b, bo + k * 7 + 6, none⟩ = some (.slice nA ns.length nC) := by rw [Nat.add_assoc]; exact hcells 6 (by omega)
        clear hcells
        by_cases h1 : 100 < cs.length
        · go_wp2_with fail
          refine (GA.out _).mono ?_
          rintro e w5 ⟨rfl, hb5⟩
          have HB5 : Hid (Below w.heap.size w w5) := HB1.out.trans (hb5.mono HB1.out.size)
          clear hb5
          go_wp2
          go_ret
          exact ⟨rfl, HB5.out⟩
        by_cases h2 : 20 < as_.length
        · go_wp2_with fail
          refine (GA.out _).mono ?_
          rintro e w5 ⟨rfl, hb5⟩
          have HB5 : Hid (Below w.heap.size w w5) := HB1.out.trans (hb5.mono HB1.out.size)
          clear hb5
          go_wp2
          go_ret
          exact ⟨rfl, HB5.out⟩
        by_cases h3 : 100 < ns.length
        · go_wp2_with fail
          refine (GA.out _).mono ?_
          rintro e w5 ⟨rfl, hb5⟩
          have HB5 : Hid (Below w.heap.size w w5) := HB1.out.trans (hb5.mono HB1.out.size)
          clear hb5
          go_wp2
          go_ret
          exact ⟨rfl, HB5.out⟩
        go_wp2_with fail
        go_loopw [4] (fun j wx => wx = wr ∧ ∃ m : Nat, m ≤ as_.length ∧ j = .int .i64 m ∧ ∀ q, q < m → ∀ y, as_[q]? = some y → LimA y) (fun j _ => as_.length - (intOf j).toNat)
        case atStart => exact ⟨rfl, 0, Nat.zero_le _, rfl, fun q hq => by omega⟩
        case round =>
          obtain ⟨rfl, m, hm, rfl, hla⟩ := hrel
          have HLA := Lib.hid hla; clear hla
          by_cases hmt : m < as_.length
          · obtain ⟨ba, oa, rfl, _⟩ := HATA.out.form (by omega)
            obtain ⟨_, _, _, r3, _, r5⟩ := HATA.out.at_ hmt
            have HMY : Hid (as_[m]? = some as_[m]) := List.getElem?_eq_getElem hmt
            have hga := (HG.out _ (List.mem_of_getElem? HKY.out)).2.2.2.2.1 _ (List.mem_of_getElem? HMY.out)
            obtain ⟨Z, HZ⟩ : ∃ Z, Hid (as_[m] = Z) := ⟨as_[m], Lib.hid rfl⟩
            rw [HZ.out] at r3 r5 HMY hga
            obtain ⟨zk, zi, zp, zn, zd, oA, oC, zo⟩ := Z
            simp only at r3 r5
            obtain ⟨_, _, _, ⟨_, hzl⟩, _, hzo, hzc⟩ := hga
            simp only at hzl hzo hzc
            unfold maxLen at hzl hzc
            have hbz := bstr_size zn
            by_cases e1 : 100 < zn.length
            · go_wp2_with fail
              refine (GA.out _).mono ?_
              rintro e w5 ⟨rfl, hb5⟩
              have HB5 : Hid (Below w.heap.size w w5) := HB1.out.trans (hb5.mono HB1.out.size)
              clear hb5
              go_wp2
              go_ret
              exact ⟨rfl, HB5.out⟩
            by_cases e2 : 100 < zo.length
            · go_wp2_with fail
              refine (GA.out _).mono ?_
              rintro e w5 ⟨rfl, hb5⟩
              have HB5 : Hid (Below w.heap.size w w5) := HB1.out.trans (hb5.mono HB1.out.size)
              clear hb5
              go_wp2
              go_ret
              exact ⟨rfl, HB5.out⟩
            go_wp2
            go_roundw
            case rel => exact ⟨trivial, m + 1, by omega, by go_num, upto_step HLA.out HMY.out ⟨by show zn.length ≤ 100; omega, by show zo.length ≤ 100; omega⟩⟩
            case measure => simp [intOf]; omega
          · have HALL : Hid (∀ y ∈ as_, LimA y) := upto_all (by omega) HLA.out
            clear HLA
            go_wp2_with fail
            go_loopw [5] (fun j wx => wx = wr ∧ ∃ m : Nat, m ≤ ns.length ∧ j = .int .i64 m ∧ ∀ q, q < m → ∀ y, ns[q]? = some y → LimN y) (fun j _ => ns.length - (intOf j).toNat)
            case atStart => exact ⟨rfl, 0, Nat.zero_le _, rfl, fun q hq => by omega⟩
            case round =>
              obtain ⟨rfl, m2, hm2, rfl, hln⟩ := hrel
              have HLN := Lib.hid hln; clear hln
              by_cases hmt2 : m2 < ns.length
              · obtain ⟨ba, oa, rfl, _⟩ := HATN.out.form (by omega)
                obtain ⟨_, _, r2, _, _⟩ := HATN.out.at_ hmt2
                have HMY : Hid (ns[m2]? = some ns[m2]) := List.getElem?_eq_getElem hmt2
                have hga := (HG.out _ (List.mem_of_getElem? HKY.out)).2.2.2.2.2.1 _ (List.mem_of_getElem? HMY.out)
                obtain ⟨Z, HZ⟩ : ∃ Z, Hid (ns[m2] = Z) := ⟨ns[m2], Lib.hid rfl⟩
                rw [HZ.out] at r2 HMY hga
                obtain ⟨zi, zp, zn, zd, zt⟩ := Z
                simp only at r2
                obtain ⟨_, _, ⟨_, hzl⟩, _⟩ := hga
                simp only at hzl
                unfold maxLen at hzl
                have hbz := bstr_size zn
                by_cases e1 : 100 < zn.length
                · go_wp2_with fail
                  refine (GA.out _).mono ?_
                  rintro e w5 ⟨rfl, hb5⟩
                  have HB5 : Hid (Below w.heap.size w w5) := HB1.out.trans (hb5.mono HB1.out.size)
                  clear hb5
                  go_wp2
                  go_ret
                  exact ⟨rfl, HB5.out⟩
                go_wp2
                go_roundw
                case rel => exact ⟨trivial, m2 + 1, by omega, by go_num, upto_step HLN.out HMY.out (by show zn.length ≤ 100; omega)⟩
                case measure => simp [intOf]; omega
              · have HALN : Hid (∀ y ∈ ns, LimN y) := upto_all (by omega) HLN.out
                clear HLN
                go_wp2
                go_roundw
                case rel => exact ⟨trivial, k + 1, by omega, by go_num, upto_step HLIM.out HKY.out ⟨by show cs.length ≤ 100; omega, by show as_.length ≤ 20; omega, by show ns.length ≤ 100; omega, HALL.out, HALN.out⟩⟩
                case measure => simp [intOf]; omega
      · have HALL : Hid (∀ y ∈ l, Lim y) := upto_all (by omega) HLIM.out
        clear HLIM
        go_wp2_with fail
        clear hlt hk
        refine (GW.out _ (HA.out.below HB1.out)).mono ?_
        rintro e w2 ⟨hd2, hb2⟩
        have HB2 : Hid (Below w.heap.size w w2) := HB1.out.trans (hb2.mono HB1.out.size)
        clear hb2
        rcases hd2 with ⟨h1, rfl⟩ | ⟨h1, A2, k2, rfl, ho2⟩
        · have H1 := Lib.hid h1; clear h1
          go_wp2_with fail
          refine (GM.out _ (HA.out.below HB2.out)).mono ?_
          rintro e w3 ⟨hd3, hb3⟩
          have HB3 : Hid (Below w.heap.size w w3) := HB2.out.trans (hb3.mono HB2.out.size)
          clear hb3
          rcases hd3 with ⟨_, rfl⟩ | ⟨h2, _⟩
          · go_wp2_with fail
            refine (GA.out _).mono ?_
            rintro e w5 ⟨rfl, hb5⟩
            have HB5 : Hid (Below w.heap.size w w5) := HB3.out.trans (hb5.mono HB3.out.size)
            clear hb5
            go_wp2
            go_ret
            exact ⟨rfl, HB5.out⟩
          · rw [H1.out] at h2; cases h2
        · obtain ⟨C, HC⟩ : ∃ C, Hid (inks (l.map iItem) = C) := ⟨_, rfl⟩
          rw [HC.out] at h1 ho2 HLE HBY
          obtain ⟨M0, bad⟩ := C
          simp only at h1 ho2 HLE HBY
          subst h1
          have GNR := Lib.hid (newReader_any A2 M0 k2 (by have := HLE.out; omega) HBY.out w2 (BytesAt.of_own ho2 rfl))
          have HC' : Hid (inks (List.map iItem l) = (M0, false)) := HC.out
          rw [HC.out]
          clear ho2
          go_wp2_with fail
          refine GNR.out.mono ?_
          rintro e w3 ⟨W1, g, rfl, hr3, hbW⟩
          have hb3 : Below w.heap.size w w3 := HB2.out.trans ((hbW.trans (hr3.upto.1.mono hbW.size)).mono HB2.out.size)
          have HWG : Hid (w.heap.size ≤ g) := Nat.le_trans (Nat.le_trans HB2.out.size hbW.size) hr3.upto.2
          have HBK : Hid (BackAt w W1 g l 0 w3) := ⟨M0, by rw [List.drop_zero]; exact HC'.out, hr3, hb3, by have := HLE.out; omega⟩
          clear hr3 hbW hb3
          go_wp2_with fail
          go_loopw [11, 12, 13] (fun i _ _ wr => ∃ k : Nat, k ≤ l.length ∧ i = .int .i64 k ∧ BackAt w W1 g l k wr) (fun i _ _ _ => l.length - (intOf i).toNat)
          case atStart => exact ⟨0, Nat.zero_le _, rfl, HBK.out⟩
          case round =>
            obtain ⟨k, hk, rfl, M, hM, hr, hbw, hml⟩ := hrel
            have HR := Lib.hid hr; have HBW := Lib.hid hbw; have HML := Lib.hid hml; clear hr hbw hml
            by_cases hlt : k < l.length
            · rw [inks_drop iItem l k hlt] at hM
              have hcells := fun f hf => (HA.out.below HBW.out).at_ hlt f hf
              have hats := HA.out.2 _ (List.getElem_mem hlt)
              have hgk := HG.out _ (List.getElem_mem hlt)
              have hlm := HALL.out _ (List.getElem_mem hlt)
              have htx := HTX.out _ (List.getElem_mem hlt)
              obtain ⟨Y, HY⟩ : ∃ Y, Hid (l[k] = Y) := ⟨l[k], Lib.hid rfl⟩
              rw [HY.out] at hats hgk hlm htx hM
              simp only [HY.out] at hcells
              obtain ⟨yk, yn, ys, yy, cA, cC, cs, aA, aC, as_, nA, nC, ns⟩ := Y
              obtain ⟨_, _, _, _, _, _, hcl, hal, hnl⟩ := hgk
              simp only at hcl hal hnl
              obtain ⟨hatc, hata, hatn⟩ := hats
              simp only at hatc hata hatn
              obtain ⟨l1, l2, l3, l4, l5⟩ := hlm
              simp only at l1 l2 l3 l4 l5
              obtain ⟨t1, t2, t3, t4⟩ := htx
              simp only at t1 t2 t3 t4
              have HLM := Lib.hid (And.intro l1 (And.intro l2 (And.intro l3 (And.intro l4 l5))))
              have HTT := Lib.hid (And.intro t1 (And.intro t2 (And.intro t3 t4)))
              have HAT := Lib.hid (And.intro hatc (And.intro hata hatn))
              have HNN := Lib.hid (And.intro hcl (And.intro hal hnl))
              have HGA := Lib.hid (HG.out _ (List.getElem_mem hlt))
              rw [HY.out] at HGA
              clear l1 l2 l3 l4 l5 t1 t2 t3 t4 hatc hata hatn hcl hal hnl
              have q0 : wr.cell? ⟨b, bo + k * 7, none⟩ = some (.int .i64 yk) := hcells 0 (by omega)
              have q1 : wr.cell? ⟨b, bo + k * 7 + 1, none⟩ = some (.int .i64 yn) := by rw [Nat.add_assoc]; exact hcells 1 (by omega)
              have q2 : wr.cell? ⟨b, bo + k * 7 + 2, none⟩ = some (.string (bstr ys)) := by rw [Nat.add_assoc]; exact hcells 2 (by omega)
              have q3 : wr.cell? ⟨b, bo + k * 7 + 3, none⟩ = some (.bool yy) := by rw [Nat.add_assoc]; exact hcells 3 (by omega)
              have q4 : wr.cell? ⟨b, bo + k * 7 + 4, none⟩ = some (.slice cA cs.length cC) := by rw [Nat.add_assoc]; exact hcells 4 (by omega)
              have q5 : wr.cell? ⟨b, bo + k * 7 + 5, none⟩ = some (.slice aA as_.length aC) := by rw [Nat.add_assoc]; exact hcells 5 (by omega)
              have q6 : wr.cell? ⟨b, bo + k * 7 + 6, none⟩ = some (.slice nA ns.length nC) := by rw [Nat.add_assoc]; exact hcells 6 (by omega)
              clear hcells
              obtain ⟨LA, LB, hA, hB, rfl⟩ := ink_false hM
              have HIA := Lib.hid hA; have HIB := Lib.hid hB; clear hA hB hM
              rw [iItem] at HIA
              simp only at HIA
              have HLB : Hid (LB.length ≤ 1099511627776 ∧ (LA ++ LB).length ≤ 1099511627776) := ⟨by have := HML.out; rw [List.length_append] at this; omega, HML.out⟩
              clear HML
              obtain ⟨wa, HWA⟩ : ∃ wa, Hid (wr.alloc (.cells #[.int .i64 yk, .int .i64 yn, .string (bstr ys), .bool yy, .slice cA cs.length cC, .slice aA as_.length aC, .slice nA ns.length nC] 53) = wa) := ⟨_, rfl⟩
              have HRW : Hid (wa.rowIs wr.heap.size 53 7 (fun i => (#[.int .i64 yk, .int .i64 yn, .string (bstr ys), .bool yy, .slice cA cs.length cC, .slice aA as_.length aC, .slice nA ns.length nC][i]?).getD undef)) := by
                show wa.rowIs _ _ _ _
                rw [← HWA.out]
                exact World.rowIs_alloc wr _ _ _ (fun i hi => by rw [Array.getElem?_eq_getElem hi]; rfl)
              have HRA : Hid (RdrAt W1 g (LA ++ LB, 0) wa) := by
                show RdrAt W1 g (LA ++ LB, 0) wa
                rw [← HWA.out]
                exact HR.out.below ((Below.refl _ _).alloc (Nat.le_refl _) _)
              have HBA : Hid (Below w.heap.size w wa) := by
                show Below w.heap.size w wa
                rw [← HWA.out]
                exact HBW.out.trans (((Below.refl _ _).alloc (Nat.le_refl _) _).mono HBW.out.size)
              have HKG : Hid (wr.heap.size ≠ g) := by
                have := HR.out.lt
                show wr.heap.size ≠ g
                omega
              obtain ⟨kc, HKE⟩ : ∃ kc, Hid (wr.heap.size = kc) := ⟨_, rfl⟩
              rw [HKE.out] at HRW HKG
              by_cases hk1 : yk = 1
              · subst hk1
                rw [if_pos rfl] at HIA
                obtain ⟨z1, z2⟩ := trip_num HIA.out LB
                have GX := Lib.hid (fun x hh => rdrNum_any W1 g (LA ++ LB, 0) x hh)
                rw [z1, z2] at GX
                clear z1 z2
                go_wp2_with fail
                rw [HWA.out, HKE.out]
                clear q0 q1 q2 q3 q4 q5 q6
                have e1 : ∀ e : ExtK (keepBlocks [kc]) wa.drew, e.val.cell? ⟨kc, 1, none⟩ = some (.int .i64 yn) := fun e => (cell_of_block (e.property.2 kc (by simp)) 1).trans ((HRW.out.cell (i := 1) (by omega)).trans rfl)
                refine wp_region_held_lit (keepBlocks [kc]) [(0, true), (2, true), (3, true), (1, false), (4, true), (5, true)] (by kernel_rfl) (by kernel_rfl) (fun _ _ d _ _ h => by cases d <;> exact h) ?_
                simp only [picked, List.map_cons, List.map_nil, List.getElem?_cons_succ, List.getElem?_cons_zero, Option.getD_some]
                repeat (first | (refine wpH_quiet (by rfl) (fun K hK => ?_); go_big_quiet_op; refine hK _ ?_; clear hK K) | (refine wpH_skip (by rfl) ?_; simp only [Act.put, List.setIfInBounds_toArray, List.set_cons_zero, List.set_cons_succ]))
                clear e1
                refine wpH_one (by rfl) (fun K hK => ?_)
                go_simp
                refine (GX.out _ HRA.out.drew).mono ?_
                rintro e w4 ⟨rfl, h4, o4⟩
                have H4 := Lib.hid h4
                have HB4 : Hid (Below w.heap.size w w4) := o4.below HBA.out.drew HWG.out
                refine hK _ _ (keep_one o4.size (o4.block kc HRW.out.lt HKG.out)) ?_
                clear hK K o4 h4
                repeat (first | (refine wpH_quiet (by rfl) (fun K hK => ?_); go_big_quiet_op; refine hK _ ?_; clear hK K) | (refine wpH_skip (by rfl) ?_; simp only [Act.put, List.setIfInBounds_toArray, List.set_cons_zero, List.set_cons_succ]))
                refine wpH_nil ?_
                go_wp2
                go_roundw
                case rel => exact ⟨k + 1, by omega, by go_num, LB, HIB.out, H4.out, HB4.out, HLB.out.1⟩
                case measure => simp [intOf]; omega
              by_cases hk2 : yk = 2
              · subst hk2
                rw [if_neg (by decide), if_pos rfl] at HIA
                have z1 := trip_text HIA.out 3000 HTT.out.1 LB
                have GX := Lib.hid (fun x hh => rdrText_any W1 g (LA ++ LB, 0) 3000 HLB.out.2 x hh)
                rw [z1] at GX
                clear z1
                go_wp2_with fail
                rw [HWA.out, HKE.out]
                clear q0 q1 q2 q3 q4 q5 q6
                have e2 : ∀ e : ExtK (keepBlocks [kc]) wa.drew, e.val.cell? ⟨kc, 2, none⟩ = some (.string (bstr ys)) := fun e => (cell_of_block (e.property.2 kc (by simp)) 2).trans ((HRW.out.cell (i := 2) (by omega)).trans rfl)
                refine wp_region_held_lit (keepBlocks [kc]) [(0, true), (2, true), (3, true), (1, false), (4, true), (5, true)] (by kernel_rfl) (by kernel_rfl) (fun _ _ d _ _ h => by cases d <;> exact h) ?_
                simp only [picked, List.map_cons, List.map_nil, List.getElem?_cons_succ, List.getElem?_cons_zero, Option.getD_some]
                repeat (first | (refine wpH_quiet (by rfl) (fun K hK => ?_); go_big_quiet_op; refine hK _ ?_; clear hK K) | (refine wpH_skip (by rfl) ?_; simp only [Act.put, List.setIfInBounds_toArray, List.set_cons_zero, List.set_cons_succ]))
                clear e2
                refine wpH_one (by rfl) (fun K hK => ?_)
                go_simp
                refine (GX.out _ HRA.out.drew).mono ?_
                rintro e w4 ⟨rfl, h4, o4⟩
                have H4 := Lib.hid h4
                have HB4 : Hid (Below w.heap.size w w4) := o4.below HBA.out.drew HWG.out
                refine hK _ _ (keep_one o4.size (o4.block kc HRW.out.lt HKG.out)) ?_
                clear hK K o4 h4
                repeat (first | (refine wpH_quiet (by rfl) (fun K hK => ?_); go_big_quiet_op; refine hK _ ?_; clear hK K) | (refine wpH_skip (by rfl) ?_; simp only [Act.put, List.setIfInBounds_toArray, List.set_cons_zero, List.set_cons_succ]))
                refine wpH_nil ?_
                go_wp2
                go_roundw
                case rel => exact ⟨k + 1, by omega, by go_num, LB, HIB.out, H4.out, HB4.out, HLB.out.1⟩
                case measure => simp [intOf]; omega
              by_cases hk3 : yk = 3
              · subst hk3
                rw [if_neg (by decide), if_neg (by decide), if_pos rfl] at HIA
                have z1 := trip_flag HIA.out LB
                have GX := Lib.hid (fun x hh => rdrFlag_any W1 g (LA ++ LB, 0) x hh)
                rw [z1] at GX
                clear z1
                go_wp2_with fail
                rw [HWA.out, HKE.out]
                clear q0 q1 q2 q3 q4 q5 q6
                have e3 : ∀ e : ExtK (keepBlocks [kc]) wa.drew, e.val.cell? ⟨kc, 3, none⟩ = some (.bool yy) := fun e => (cell_of_block (e.property.2 kc (by simp)) 3).trans ((HRW.out.cell (i := 3) (by omega)).trans rfl)
                refine wp_region_held_lit (keepBlocks [kc]) [(0, true), (2, true), (3, true), (1, false), (4, true), (5, true)] (by kernel_rfl) (by kernel_rfl) (fun _ _ d _ _ h => by cases d <;> exact h) ?_
                simp only [picked, List.map_cons, List.map_nil, List.getElem?_cons_succ, List.getElem?_cons_zero, Option.getD_some]
                repeat (first | (refine wpH_quiet (by rfl) (fun K hK => ?_); go_big_quiet_op; refine hK _ ?_; clear hK K) | (refine wpH_skip (by rfl) ?_; simp only [Act.put, List.setIfInBounds_toArray, List.set_cons_zero, List.set_cons_succ]))
                clear e3
                refine wpH_one (by rfl) (fun K hK => ?_)
                go_simp
                refine (GX.out _ HRA.out.drew).mono ?_
                rintro e w4 ⟨rfl, h4, o4⟩
                have H4 := Lib.hid h4
                have HB4 : Hid (Below w.heap.size w w4) := o4.below HBA.out.drew HWG.out
                refine hK _ _ (keep_one o4.size (o4.block kc HRW.out.lt HKG.out)) ?_
                clear hK K o4 h4
                repeat (first | (refine wpH_quiet (by rfl) (fun K hK => ?_); go_big_quiet_op; refine hK _ ?_; clear hK K) | (refine wpH_skip (by rfl) ?_; simp only [Act.put, List.setIfInBounds_toArray, List.set_cons_zero, List.set_cons_succ]))
                refine wpH_nil ?_
                go_wp2
                go_roundw
                case rel => exact ⟨k + 1, by omega, by go_num, LB, HIB.out, H4.out, HB4.out, HLB.out.1⟩
                case measure => simp [intOf]; omega
              by_cases hk4 : yk = 4
              · subst hk4
                rw [if_neg (by decide), if_neg (by decide), if_neg (by decide), if_pos rfl] at HIA
                have z1 := trip_comps HIA.out HLM.out.1 HTT.out.2.1 LB
                have GX := Lib.hid (fun x hh => rdrComps_any W1 g (LA ++ LB, 0) HLB.out.2 x hh)
                rw [z1] at GX
                clear z1
                go_wp2_with fail
                rw [HWA.out, HKE.out]
                clear q0 q1 q2 q3 q4 q5 q6
                have e4 : ∀ e : ExtK (keepBlocks [kc]) wa.drew, e.val.cell? ⟨kc, 4, none⟩ = some (.slice cA cs.length cC) := fun e => (cell_of_block (e.property.2 kc (by simp)) 4).trans ((HRW.out.cell (i := 4) (by omega)).trans rfl)
                refine wp_region_held_lit (keepBlocks [kc]) [(0, true), (2, true), (3, true), (1, false), (4, false), (5, true)] (by kernel_rfl) (by kernel_rfl) (fun _ _ d _ _ h => by cases d <;> exact h) ?_
                simp only [picked, List.map_cons, List.map_nil, List.getElem?_cons_succ, List.getElem?_cons_zero, Option.getD_some]
                repeat (first | (refine wpH_quiet (by rfl) (fun K hK => ?_); go_big_quiet_op; refine hK _ ?_; clear hK K) | (refine wpH_skip (by rfl) ?_; simp only [Act.put, List.setIfInBounds_toArray, List.set_cons_zero, List.set_cons_succ]))
                clear e4
                refine wpH_one (by rfl) (fun K hK => ?_)
                go_simp
                refine (GX.out _ HRA.out.drew).mono ?_
                rintro e w4 ⟨⟨A3, c3, rfl, w3o⟩, h4, o4⟩
                have H40 := Lib.hid h4
                have HAT3 := Lib.hid (CellsAt.of_own w3o); clear w3o
                have HB40 : Hid (Below w.heap.size w w4) := o4.below HBA.out.drew HWG.out
                refine hK _ _ (keep_one o4.size (o4.block kc HRW.out.lt HKG.out)) ?_
                have HKL : Hid (kc < w4.heap.size) := Nat.lt_of_lt_of_le HRW.out.lt o4.size
                clear hK K o4 h4
                repeat (first | (refine wpH_quiet (by rfl) (fun K hK => ?_); go_big_quiet_op; refine hK _ ?_; clear hK K) | (refine wpH_skip (by rfl) ?_; simp only [Act.put, List.setIfInBounds_toArray, List.set_cons_zero, List.set_cons_succ]))
                refine wpH_one (by rfl) (fun K hK => ?_)
                go_simp
                refine (refSame_alike A3 cA c3 cC _ HNN.out.1 w4 HAT3.out (HAT.out.1.below HB40.out)).mono ?_
                rintro e w5 ⟨rfl, hb5⟩
                have H4 := Lib.hid (H40.out.below hb5)
                have HB4 : Hid (Below w.heap.size w w5) := HB40.out.trans (hb5.mono HB40.out.size)
                refine hK _ _ (keep_one hb5.size (hb5.block kc HKL.out)) ?_
                clear hK K hb5
                repeat (first | (refine wpH_quiet (by rfl) (fun K hK => ?_); go_big_quiet_op; refine hK _ ?_; clear hK K) | (refine wpH_skip (by rfl) ?_; simp only [Act.put, List.setIfInBounds_toArray, List.set_cons_zero, List.set_cons_succ]))
                refine wpH_nil ?_
                go_wp2
                go_roundw
                case rel => exact ⟨k + 1, by omega, by go_num, LB, HIB.out, H4.out, HB4.out, HLB.out.1⟩
                case measure => simp [intOf]; omega
              by_cases hk5 : yk = 5
              · subst hk5
                rw [if_neg (by decide), if_neg (by decide), if_neg (by decide), if_neg (by decide), if_pos rfl] at HIA
                have z1 := trip_acts HIA.out HLM.out.2.1 (fun c hc => ⟨(HLM.out.2.2.2.1 c hc).1, (HLM.out.2.2.2.1 c hc).2, HTT.out.2.2.1 c hc⟩) LB
                have GX := Lib.hid (fun x hh => rdrActs_any W1 g (LA ++ LB, 0) HLB.out.2 x hh)
                rw [z1] at GX
                clear z1
                go_wp2_with fail
                rw [HWA.out, HKE.out]
                clear q0 q1 q2 q3 q4 q5 q6
                have e5 : ∀ e : ExtK (keepBlocks [kc]) wa.drew, e.val.cell? ⟨kc, 5, none⟩ = some (.slice aA as_.length aC) := fun e => (cell_of_block (e.property.2 kc (by simp)) 5).trans ((HRW.out.cell (i := 5) (by omega)).trans rfl)
                refine wp_region_held_lit (keepBlocks [kc]) [(0, true), (2, true), (3, true), (1, false), (4, false), (5, true)] (by kernel_rfl) (by kernel_rfl) (fun _ _ d _ _ h => by cases d <;> exact h) ?_
                simp only [picked, List.map_cons, List.map_nil, List.getElem?_cons_succ, List.getElem?_cons_zero, Option.getD_some]
                repeat (first | (refine wpH_quiet (by rfl) (fun K hK => ?_); go_big_quiet_op; refine hK _ ?_; clear hK K) | (refine wpH_skip (by rfl) ?_; simp only [Act.put, List.setIfInBounds_toArray, List.set_cons_zero, List.set_cons_succ]))
                clear e5
                refine wpH_one (by rfl) (fun K hK => ?_)
                go_simp
                refine (GX.out _ HRA.out.drew).mono ?_
                rintro e w4 ⟨⟨m3, A3, c3, hs3, rfl, w3o, ow3⟩, h4, o4⟩
                have H40 := Lib.hid h4
                have HAT3 : Hid (ActsAt w4 A3 m3) := ⟨CellsAt.of_own w3o, fun y hy => CellsAt.of_own (ow3 y hy)⟩
                have HOL : Hid (m3.length ≤ maxLen ∧ ∀ y ∈ m3, y.ops.length ≤ maxLen) := ⟨own_len w3o, fun y hy => own_len (ow3 y hy)⟩
                have HS3 := Lib.hid hs3
                clear w3o ow3 hs3
                have HB40 : Hid (Below w.heap.size w w4) := o4.below HBA.out.drew HWG.out
                refine hK _ _ (keep_one o4.size (o4.block kc HRW.out.lt HKG.out)) ?_
                have HKL : Hid (kc < w4.heap.size) := Nat.lt_of_lt_of_le HRW.out.lt o4.size
                clear hK K o4 h4
                repeat (first | (refine wpH_quiet (by rfl) (fun K hK => ?_); go_big_quiet_op; refine hK _ ?_; clear hK K) | (refine wpH_skip (by rfl) ?_; simp only [Act.put, List.setIfInBounds_toArray, List.set_cons_zero, List.set_cons_succ]))
                refine wpH_one (by rfl) (fun K hK => ?_)
                go_simp
                refine (refSameActs_alike A3 aA c3 aC m3 as_ HOL.out.1 HOL.out.2 w4 HAT3.out (HAT.out.2.1.below HB40.out) HS3.out).mono ?_
                rintro e w5 ⟨rfl, hb5⟩
                have H4 := Lib.hid (H40.out.below hb5)
                have HB4 : Hid (Below w.heap.size w w5) := HB40.out.trans (hb5.mono HB40.out.size)
                refine hK _ _ (keep_one hb5.size (hb5.block kc HKL.out)) ?_
                clear hK K hb5
                repeat (first | (refine wpH_quiet (by rfl) (fun K hK => ?_); go_big_quiet_op; refine hK _ ?_; clear hK K) | (refine wpH_skip (by rfl) ?_; simp only [Act.put, List.setIfInBounds_toArray, List.set_cons_zero, List.set_cons_succ]))
                refine wpH_nil ?_
                go_wp2
                go_roundw
                case rel => exact ⟨k + 1, by omega, by go_num, LB, HIB.out, H4.out, HB4.out, HLB.out.1⟩
                case measure => simp [intOf]; omega
              by_cases hk6 : yk = 6
              · subst hk6
                rw [if_neg (by decide), if_neg (by decide), if_neg (by decide), if_neg (by decide), if_neg (by decide), if_pos rfl] at HIA
                have z1 := trip_nodes HIA.out HLM.out.2.2.1 (fun c hc => ⟨HLM.out.2.2.2.2 c hc, HTT.out.2.2.2 c hc⟩) LB
                have GX := Lib.hid (fun x hh => rdrNodes_any W1 g (LA ++ LB, 0) HLB.out.2 x hh)
                rw [z1] at GX
                clear z1
                go_wp2_with fail
                rw [HWA.out, HKE.out]
                clear q0 q1 q2 q3 q4 q5 q6
                have e6 : ∀ e : ExtK (keepBlocks [kc]) wa.drew, e.val.cell? ⟨kc, 6, none⟩ = some (.slice nA ns.length nC) := fun e => (cell_of_block (e.property.2 kc (by simp)) 6).trans ((HRW.out.cell (i := 6) (by omega)).trans rfl)
                refine wp_region_held_lit (keepBlocks [kc]) [(0, true), (2, true), (3, true), (1, false), (4, false), (5, true)] (by kernel_rfl) (by kernel_rfl) (fun _ _ d _ _ h => by cases d <;> exact h) ?_
                simp only [picked, List.map_cons, List.map_nil, List.getElem?_cons_succ, List.getElem?_cons_zero, Option.getD_some]
                repeat (first | (refine wpH_quiet (by rfl) (fun K hK => ?_); go_big_quiet_op; refine hK _ ?_; clear hK K) | (refine wpH_skip (by rfl) ?_; simp only [Act.put, List.setIfInBounds_toArray, List.set_cons_zero, List.set_cons_succ]))
                clear e6
                refine wpH_one (by rfl) (fun K hK => ?_)
                go_simp
                refine (GX.out _ HRA.out.drew).mono ?_
                rintro e w4 ⟨⟨A3, c3, rfl, w3o⟩, h4, o4⟩
                have H40 := Lib.hid h4
                have HAT3 := Lib.hid (CellsAt.of_own w3o); clear w3o
                have HB40 : Hid (Below w.heap.size w w4) := o4.below HBA.out.drew HWG.out
                refine hK _ _ (keep_one o4.size (o4.block kc HRW.out.lt HKG.out)) ?_
                have HKL : Hid (kc < w4.heap.size) := Nat.lt_of_lt_of_le HRW.out.lt o4.size
                clear hK K o4 h4
                repeat (first | (refine wpH_quiet (by rfl) (fun K hK => ?_); go_big_quiet_op; refine hK _ ?_; clear hK K) | (refine wpH_skip (by rfl) ?_; simp only [Act.put, List.setIfInBounds_toArray, List.set_cons_zero, List.set_cons_succ]))
                refine wpH_one (by rfl) (fun K hK => ?_)
                go_simp
                refine (refSameNodes_alike A3 nA c3 nC _ HNN.out.2.2 w4 HAT3.out (HAT.out.2.2.below HB40.out)).mono ?_
                rintro e w5 ⟨rfl, hb5⟩
                have H4 := Lib.hid (H40.out.below hb5)
                have HB4 : Hid (Below w.heap.size w w5) := HB40.out.trans (hb5.mono HB40.out.size)
                refine hK _ _ (keep_one hb5.size (hb5.block kc HKL.out)) ?_
                clear hK K hb5
                repeat (first | (refine wpH_quiet (by rfl) (fun K hK => ?_); go_big_quiet_op; refine hK _ ?_; clear hK K) | (refine wpH_skip (by rfl) ?_; simp only [Act.put, List.setIfInBounds_toArray, List.set_cons_zero, List.set_cons_succ]))
                refine wpH_nil ?_
                go_wp2
                go_roundw
                case rel => exact ⟨k + 1, by omega, by go_num, LB, HIB.out, H4.out, HB4.out, HLB.out.1⟩
                case measure => simp [intOf]; omega
              · rw [if_neg hk1, if_neg hk2, if_neg hk3, if_neg hk4, if_neg hk5, if_neg hk6] at HIA
                have hla := HIA.out
                injection hla with hla _
                subst hla
                go_wp2
                rw [HWA.out]
                go_roundw
                case rel => exact ⟨k + 1, by omega, by go_num, LB, HIB.out, HRA.out, HBA.out, HLB.out.1⟩
                case measure => simp [intOf]; omega
            · obtain rfl : k = l.length := by omega
              rw [List.drop_length, List.map_nil] at hM
              injection hM with hM _
              subst hM
              have GE := Lib.hid (rdErr_any W1 g ([], 0) wr HR.out)
              have GL := Lib.hid (rdrLeft_any W1 g ([], 0) wr HR.out)
              rw [show lft ([], 0) = [] from rfl] at GL
              go_wp2_with fail
              refine GE.out.mono ?_
              rintro e w' ⟨rfl, rfl⟩
              go_wp2_with fail
              refine GL.out.mono ?_
              rintro e w' ⟨rfl, rfl⟩
              go_wp2_with fail
              refine (GA.out _).mono ?_
              rintro e w5 ⟨rfl, hb5⟩
              have HB5 : Hid (Below w.heap.size w w5) := HBW.out.trans (hb5.mono HBW.out.size)
              clear hb5
              go_wp2
              go_ret
              exact ⟨rfl, HB5.out⟩
  · rw [decide_eq_false hw] at GS
    clear hw
    go_enter Try.func5, Try.ntmps5
    go_wp2_with fail
    refine GS.out.mono ?_
    rintro e w1 ⟨rfl, hb1⟩
    have HB1 := Lib.hid hb1; clear hb1
    go_wp2_with fail
    refine (GA.out _).mono ?_
    rintro e w5 ⟨rfl, hb5⟩
    have HB5 : Hid (Below w.heap.size w w5) := HB1.out.trans (hb5.mono HB1.out.size)
    clear hb5
    go_wp2
    go_ret
    exact ⟨rfl, HB5.out⟩
end Go.Proofs.Ytkapfijokmajlaa

/- The law CodecBack, over all arguments. No condition beyond lengths of memory. -/
namespace Go.Proofs.Ytkapfijokmajlaa
open Go.RowKit Go.Deep

theorem weight_nil : itemsWeight [] ≤ 3000 := by rw [itemsWeight, List.map_nil, wts_nil]; omega
set_option maxRecDepth 100000 in
theorem codecBack_nil (A : Option Addr) (cap : Nat) (w : World) :
    Calls Try.prog 5 #[.slice A 0 cap] w fun e w' => e = .returned (.bool true) ∧ Below w.heap.size w w' := by
  have GS := Lib.hid (small_nil A cap w)
  rw [decide_eq_true weight_nil] at GS
  have GA := Lib.hid (fun w => awake_any w)
  have GW := Lib.hid (fun w => written_items_nil A cap w)
  go_enter Try.func5, Try.ntmps5
  go_wp2_with fail
  refine GS.out.mono ?_
  rintro e w1 ⟨rfl, hb1⟩
  have HB1 := Lib.hid hb1; clear hb1
  go_wp2_with fail
  refine wp_loop_rounds 1 ?_
  rw [rounds_succ]
  go_wp2_with fail
  refine (GW.out _).mono ?_
  rintro e w2 ⟨hd2, hb2⟩
  have HB2 : Hid (Below w.heap.size w w2) := HB1.out.trans (hb2.mono HB1.out.size)
  clear hb2
  rcases hd2 with ⟨h1, _⟩ | ⟨_, A2, k2, rfl, ho2⟩
  · cases h1
  · have GNR := Lib.hid (newReader_any A2 [] k2 (by simp) (by simp) w2 (.inl rfl))
    clear ho2
    go_wp2_with fail
    refine GNR.out.mono ?_
    rintro e w3 ⟨W1, g, rfl, hr3, hbW⟩
    have HB3 : Hid (Below w.heap.size w w3) := HB2.out.trans ((hbW.trans (hr3.upto.1.mono hbW.size)).mono HB2.out.size)
    have GE := Lib.hid (rdErr_any W1 g ([], 0) w3 hr3)
    have GL := Lib.hid (rdrLeft_any W1 g ([], 0) w3 hr3)
    rw [show lft ([], 0) = [] from rfl] at GL
    clear hr3 hbW
    go_wp2_with fail
    refine wp_loop_rounds 1 ?_
    rw [rounds_succ]
    go_wp2_with fail
    refine GE.out.mono ?_
    rintro e w' ⟨rfl, rfl⟩
    go_wp2_with fail
    refine GL.out.mono ?_
    rintro e w' ⟨rfl, rfl⟩
    go_wp2_with fail
    refine (GA.out _).mono ?_
    rintro e w5 ⟨rfl, hb5⟩
    have HB5 : Hid (Below w.heap.size w w5) := HB3.out.trans (hb5.mono HB3.out.size)
    clear hb5
    go_wp2
    go_ret
    exact ⟨rfl, HB5.out⟩
theorem codecBack_any {A : Option Addr} {l : List ItemV} (cap : Nat) (hl : l.length ≤ maxLen) (hg : ∀ y ∈ l, y.Good) (w : World) (hA : ItemsAt w A l) :
    Calls Try.prog 5 #[.slice A l.length cap] w fun e w' => e = .returned (.bool true) ∧ Below w.heap.size w w' := by
  cases l with
  | nil => exact codecBack_nil A cap w
  | cons x l =>
    obtain ⟨b, off, rfl, _⟩ := hA.form (by simp)
    exact codecBack_row b off cap (x :: l) hl hg w hA
end Go.Proofs.Ytkapfijokmajlaa

/- CodecBack holds: what was written, within the limits, is read as it was, in the same order, and nothing is left: whatever items the law is called with, it answers true and changes nothing. No condition. -/
namespace Go.Proofs.Ytkapfijokmajlaa
open Go.ChangeShapes Go.WideShapes Go.ChangeAt Go.RowKit

set_option maxRecDepth 100000 in
theorem codecBack_lifted (os : Os) (started : os.Started) (H : Type) (enc : TypeId × Value → H) :
    ReturnsInHanded {} Try.checked os 5 .any (Rows.codecBackSpec.pre6 enc Try.prog Try.f5 Rows.codecBackRow.domain false) (Rows.codecBackSpec.post enc Try.prog Try.f5 false true false false) := by
  refine returnsInHanded_of_change (C := Try.checked) law_own started (by kernel_rfl) Try.func5
    (ChangeSpec.witness6 (enc := enc) (C := Try.checked) false ⟨#[], #[.slice none 0 0], []⟩ 8 (by kernel_rfl) (by kernel_rfl) (by kernel_rfl) (by kernel_rfl)) ?_
  intro W base args ds gs before hval0 hW _ _
  have hval : ∀ (j : Nat) t v, Try.f5.params[j]? = some t → args[j]? = some v → Value.okWide Try.prog W .any base t v := hval0
  have hW' := hW
  obtain ⟨p, q, hA0, hV, rfl, _, _⟩ := hW
  have hlt : ∀ x ∈ p ++ q, x.block < W.heap.size := fun x hx => hW'.lt x hx
  have hA : DataW.TrodAll enc Try.prog W 0 (fun _ => true) true Try.f5.params.toList args.toList ds p := hA0
  rw [Try.params5] at hA hval
  obtain ⟨v0, d0, rfl, rfl, h0⟩ := trodAll_one hA
  obtain ⟨rfl, rfl⟩ := trodVars_none hV
  obtain ⟨A, l, c, rfl, hat, hg, hlc, hc⟩ := open_items (hval 0 22 v0 rfl rfl) h0 (fun x hx => hlt x (by simpa using hx))
  clear hA0 hval0
  refine (codecBack_any c (by omega) hg W hat).mono fun e W' ⟨he, hb⟩ => ?_
  exact ⟨_, he, law_post law_laid (by kernel_rfl) (by kernel_rfl) Try.underlying4 rfl hW' rfl hb⟩

theorem codecBack_holds : Rows.CodecBackSaid :=
  OpenClaim.holds_of_wide 5 Try.f5 rfl rfl rfl rfl rfl rfl rfl ⟨rfl, rfl, rfl, rfl, rfl⟩ rfl rfl rfl rfl rfl (by kernel_rfl) Try.func5 (by kernel_rfl)
    (of_decide_eq_true (by kernel_rfl)) (by unfold Func.isWrapper; first | (rw [if_pos (by decide +kernel)]; kernel_rfl) | (rw [if_neg (by decide +kernel)]; exact ⟨rfl, rfl⟩))
    (fun os started H enc _ => codecBack_lifted os started H enc)
end Go.Proofs.Ytkapfijokmajlaa
