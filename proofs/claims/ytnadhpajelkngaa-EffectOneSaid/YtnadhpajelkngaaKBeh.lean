/- The landed effect's Over: what was done, seen from behind acts. Conditions: what may be looked at; at most 2^20 acts, and as many things done. (Merged of 2 texts.) -/
import Derived.Test.YtnadhpajelkngaaKCs
import Derived.Test.YtnadhpajelkngaaKOne
import Derived.Test.YtnadhpajelkngaaKXt
import Derived.Test.YtnadhpajelkngaaKOwn
import Derived.Test.YtnadhpajelkngaaKMap
import Derived.Test.YtnadhpajelkngaaKOfk
/- The landed effect's behind: an edit behind each of a row, as far as there is one. Conditions: what memory may hold; at most 2^20 edits in the row. -/
namespace Go.Proofs.Ytnadhpajelkngaa
open Go.RowKit Go.Deep

open Classical in
noncomputable def behindStep (o b : List CompV) : List CompV := if o ≠ [] ∧ (rOver true o b).2 = 0 then (rOver true o b).1 else o
noncomputable def behindAll (o : List CompV) (l : List (List CompV)) : List CompV := l.foldl behindStep o
theorem behind_none (b : List CompV) : behindStep [] b = [] := by
  unfold behindStep
  rw [if_neg (fun h => h.1 rfl)]
theorem behindAll_none : ∀ l, behindAll [] l = []
  | [] => rfl
  | b :: l => by
    show behindAll (behindStep [] b) l = []
    rw [behind_none]
    exact behindAll_none l
theorem behindAll_snoc (o : List CompV) (l : List (List CompV)) (b : List CompV) : behindAll o (l ++ [b]) = behindStep (behindAll o l) b := by
  unfold behindAll
  rw [List.foldl_append]
  rfl
/-- Where what was answered lies: where it lay, or in memory of the call's own. -/
def Src (w : World) (A : Option Addr) (ops : List CompV) (w' : World) (A' : Option Addr) (c' : Nat) (r : List CompV) : Prop := (A' = A ∧ r = ops) ∨ w'.ownsRow w.heap.size 54 3 (.slice A' r.length c') r.length (r.flatMap compCells)
theorem Src.below {w w1 w2 : World} {A A' : Option Addr} {c' : Nat} {ops r : List CompV} (h : Src w A ops w1 A' c' r) (hb : Below w1.heap.size w1 w2) : Src w A ops w2 A' c' r := h.imp id fun h => own_below h hb
set_option maxHeartbeats 4000000 in
set_option maxRecDepth 100000 in
theorem effBehind_any (A : Option Addr) (c : Nat) (ops : List CompV) (hh : Held1 ops) (hcm : c ≤ maxLen) (R : Option Addr) (d : Nat) (L : List EditR) (hL : L.length ≤ 1048576) (hf : ∀ x ∈ L, Held1 x.2.2) (w : World) (hA : CompsC w A c ops) (hR : RowsC w R L) :
    Calls Try.prog 27 #[.slice A ops.length c, .slice R L.length d] w fun e w' => (∃ A' c' r, e = .returned (.slice A' (List.length r) c') ∧ r = behindAll ops (L.map (·.2.2)) ∧ CompsC w' A' c' r ∧ Held1 r ∧ c' ≤ maxLen ∧ Src w A ops w' A' c' r) ∧ Below w.heap.size w w' := by
  have HA := Lib.hid hA
  have HR := Lib.hid hR
  have HH := Lib.hid hh
  have HF := Lib.hid hf
  have HCM : Hid (c ≤ maxLen ∧ Src w A ops w A c ops) := Lib.hid ⟨hcm, .inl ⟨rfl, rfl⟩⟩
  clear hA hR hh hf hcm
  go_enter Try.func27, Try.ntmps27
  go_wp2
  go_loopw [0, 11] (fun s0 i wr => ∃ (k : Nat) (A1 : Option Addr) (c1 : Nat) (r : List CompV), k ≤ L.length ∧ i = .int .i64 k ∧ s0 = .slice A1 r.length c1 ∧ Hid (r = behindAll ops ((L.take k).map (·.2.2))) ∧ Hid (CompsC wr A1 c1 r) ∧ Hid (Held1 r) ∧ Hid (c1 ≤ maxLen ∧ Src w A ops wr A1 c1 r) ∧ Hid (Below w.heap.size w wr)) (fun _ i _ => L.length - (intOf i).toNat)
  case atStart => exact ⟨0, A, c, ops, Nat.zero_le _, rfl, rfl, Lib.hid rfl, HA, HH, HCM, Lib.hid (Below.refl _ _)⟩
  case round =>
    obtain ⟨k, A1, c1, r, hk, rfl, rfl, HE, HC, HR1, HM1, HBE⟩ := hrel
    by_cases hlt : k < L.length
    · have hltI : (k : Int) < (L.length : Int) := by omega
      have hRw := HR.out.below HBE.out
      obtain ⟨b, off, rfl, _⟩ := hRw.form (by omega)
      obtain ⟨q0, q1⟩ := hRw.cell hlt
      have HQ1 := Lib.hid q1
      have HXH := Lib.hid (HF.out _ (List.getElem_mem hlt))
      have HTK : Hid ((L.take (k + 1)).map (·.2.2) = (L.take k).map (·.2.2) ++ [L[k].2.2]) := Lib.hid (by rw [List.take_succ_eq_append_getElem hlt, List.map_append]; rfl)
      clear hRw q1
      generalize L[k] = x at q0 HQ1 HXH HTK
      obtain ⟨xA, xc, xl⟩ := x
      simp only at q0
      by_cases h0 : r = []
      · have HALL : Hid (behindAll ops (L.map (·.2.2)) = []) := Lib.hid (by
          have h1 := HE.out
          rw [h0] at h1
          have h2 : L.map (·.2.2) = (L.take k).map (·.2.2) ++ (L.drop k).map (·.2.2) := by rw [← List.map_append, List.take_append_drop]
          rw [h2]
          unfold behindAll at h1 ⊢
          rw [List.foldl_append, ← h1]
          exact behindAll_none _)
        subst h0
        go_wp2
        go_ret
        exact ⟨⟨A1, c1, [], rfl, HALL.out.symm, HC.out, HR1.out, HM1.out.1, HM1.out.2⟩, HBE.out⟩
      · have hlen : ¬ r.length = 0 := fun e => h0 (List.length_eq_zero_iff.1 e)
        have hlen1 : ((r.length : Int) == 0) = false := beq_eq_false_iff_ne.2 (by omega)
        have GO := Lib.hid (xformOver_told A1 c1 r xA xc xl HR1.out.max HXH.out.max HR1.out.fine HXH.out.fine true wr HC.out HQ1.out)
        have HR0 := Lib.hid h0
        clear h0
        obtain ⟨q, HQ⟩ : ∃ q, Hid (rOver true r xl = q) := ⟨_, Lib.hid rfl⟩
        rw [HQ.out] at GO
        obtain ⟨o, e⟩ := q
        go_wp2_with fail
        refine (GO.out).mono ?_
        rintro e1 w2 ⟨⟨A2, c2, rfl, hc2⟩, hh2, hb2⟩
        have HC2 : Hid (CompsC w2 A2 c2 o) := Lib.hid (CompsC.of_own hc2)
        have HM2 : Hid (c2 ≤ maxLen ∧ Src w A ops w2 A2 c2 o) := Lib.hid ⟨(own_room hc2).2, .inr (own_base hc2 HBE.out.size)⟩
        have HMW : Hid (c1 ≤ maxLen ∧ Src w A ops w2 A1 c1 r) := Lib.hid ⟨HM1.out.1, HM1.out.2.below hb2⟩
        have HH2 := Lib.hid hh2
        have HB2 := Lib.hid (HBE.out.trans (hb2.mono HBE.out.size))
        have HCW := Lib.hid (CompsC.below HC.out hb2)
        clear hc2 hh2 hb2 GO
        simp only
        by_cases he : e = 0
        · subst he
          have HN : Hid (o = behindAll ops ((L.take (k + 1)).map (·.2.2))) := Lib.hid (by
            rw [HTK.out, behindAll_snoc, ← HE.out]
            unfold behindStep
            rw [if_pos ⟨HR0.out, by rw [HQ.out]⟩, HQ.out])
          go_wp2
          go_roundw
          case rel => exact ⟨k + 1, A2, c2, o, by omega, by go_num, rfl, HN, HC2, HH2, HM2, HB2⟩
          case measure => simp [intOf]; omega
        · have he1 : ((e : Int) == 0) = false := beq_eq_false_iff_ne.2 (by omega)
          have HN : Hid (r = behindAll ops ((L.take (k + 1)).map (·.2.2))) := Lib.hid (by
            rw [HTK.out, behindAll_snoc, ← HE.out]
            unfold behindStep
            rw [if_neg (fun h => he (by have := h.2; rw [HQ.out] at this; exact this))])
          go_wp2
          go_roundw
          case rel => exact ⟨k + 1, A1, c1, r, by omega, by go_num, rfl, HN, HCW, HR1, HMW, HB2⟩
          case measure => simp [intOf]; omega
    · obtain rfl : k = L.length := by omega
      have hltI : ¬ (L.length : Int) < (L.length : Int) := by omega
      rw [List.take_length] at HE
      go_wp2
      go_ret
      exact ⟨⟨A1, c1, r, rfl, HE.out, HC.out, HR1.out, HM1.out.1, HM1.out.2⟩, HBE.out⟩
end Go.Proofs.Ytnadhpajelkngaa

/- The landed effect's Over: what was done, seen from behind acts. Conditions: what may be looked at; at most 2^20 acts, and as many things done. -/
namespace Go.Proofs.Ytnadhpajelkngaa
open Go.RowKit Go.Deep

theorem over_rows (m : List ActV) : ∀ x : OneK, overOne m x = { x with ops := behindAll x.ops ((rowsE m x.id).map (·.2.2)) } := by
  have h : ∀ (m : List ActV) (x : OneK), m.foldl overStep x = { x with ops := behindAll x.ops ((rowsE m x.id).map (·.2.2)) } := by
    intro m
    induction m with
    | nil => intro x; rfl
    | cons a m ih =>
      intro x
      rw [List.foldl_cons, ih, (overStep_same x a).1]
      have e : rowsE (a :: m) x.id = rowsE [a] x.id ++ rowsE m x.id := by
        unfold rowsE
        rw [← List.map_append, ← List.filter_append]
        rfl
      rw [e, List.map_append]
      unfold behindAll
      rw [List.foldl_append]
      have e2 : overStep x a = { x with ops := ((rowsE [a] x.id).map (·.2.2)).foldl behindStep x.ops } := by
        unfold overStep rowsE
        by_cases h1 : a.kind = 4 ∧ a.id = x.id
        · have h2 : (decide (a.kind = 4) && decide (a.id = x.id)) = true := by rw [decide_eq_true h1.1, decide_eq_true h1.2]; rfl
          rw [List.filter_cons, if_pos h2]
          show _ = { x with ops := behindStep x.ops a.ops }
          unfold behindStep
          by_cases h3 : x.ops ≠ [] ∧ (rOver true x.ops a.ops).2 = 0
          · rw [if_pos ⟨h1, h3⟩, if_pos h3]
          · rw [if_neg (fun h => h3 h.2), if_neg h3]
        · have h2 : ¬ (decide (a.kind = 4) && decide (a.id = x.id)) = true := fun h => h1 (by simpa using h)
          rw [if_neg (fun h => h1 h.1), List.filter_cons, if_neg h2]
          rfl
      rw [e2]
  exact h m
theorem rowsE_mem {m : List ActV} {i : Int} {x : EditR} (h : x ∈ rowsE m i) : ∃ a ∈ m, x = (a.opsA, a.opsC, a.ops) := by
  unfold rowsE at h
  obtain ⟨a, ha, rfl⟩ := List.mem_map.1 h
  exact ⟨a, (List.mem_filter.1 ha).1, rfl⟩
theorem rowsC_of {w : World} {V c : Nat} {A : Option Addr} {rows : List EditR} (h : OwnX w V A c rows) (hc : ∀ x ∈ rows, CompsC w x.1 x.2.1 x.2.2) : RowsC w A rows := by
  rcases CellsAt.of_own h with h0 | ⟨b, off, rfl, hlt, hcc⟩
  · exact .inl (List.map_eq_nil_iff.1 h0)
  · refine .inr ⟨b, off, rfl, hlt, fun j x hj => ⟨hcc j _ (by rw [List.getElem?_map, hj]; rfl), hc x (List.mem_of_getElem? hj)⟩⟩
set_option maxHeartbeats 8000000 in
set_option maxRecDepth 100000 in
theorem effOver_made (A : Option Addr) (c : Nat) (l : List OneV) (hl : l.length ≤ 1048576) (hg : ∀ y ∈ l, y.Good ∧ KeyH y.k) (B : Option Addr) (d : Nat) (m : List ActV) (hm : m.length ≤ 1048576) (hgm : ∀ a ∈ m, ActH a) (w : World) (hA : OnesAt w A l) (hB : ActsAt w B m) :
    Calls Try.prog 9 #[.slice A l.length c, .slice B m.length d] w fun e w' => ∃ Lo A3 c3 V, e = .returned (.slice A3 (List.length Lo) c3) ∧ OwnE w' V A3 c3 Lo ∧ Lo.map (·.k) = overK (l.map (·.k)) m ∧ (∀ y ∈ Lo, Made1 w' V y) ∧ w.heap.size ≤ V ∧ Below w.heap.size w w' := by
  have GE := Lib.hid (effEdits_any B d m hm hgm w hB)
  have HA := Lib.hid hA
  have HG := Lib.hid hg
  have HBC := Lib.hid hB.2
  have HGM := Lib.hid hgm
  clear hA hB hg hgm
  unfold EditsEnd at GE
  go_enter Try.func9, Try.ntmps9
  go_wp2_with fail
  refine (GE.out).mono ?_
  rintro e w1 ⟨Bm, V, n, S, D, rfl, hE, hBm, hb1⟩
  have HE := Lib.hid hE
  have HB1 := Lib.hid hb1
  clear hE hBm hb1 GE
  obtain ⟨wq, hwq⟩ : ∃ x, x = w1 := ⟨_, rfl⟩
  subst hwq
  go_wp2
  go_loopw [6, 13] (fun s6 i wr => ∃ (k : Nat) (A3 : Option Addr) (c3 : Nat) (Lo : List OneV), k ≤ l.length ∧ i = .int .i64 k ∧ s6 = .slice A3 Lo.length c3 ∧ Hid (Lo.length = k) ∧ Hid (OwnE wr wq.heap.size A3 c3 Lo) ∧ Hid (Lo.map (·.k) = overK ((l.take k).map (·.k)) m) ∧ Hid (∀ y ∈ Lo, Made1 wr wq.heap.size y) ∧ Hid (Below wq.heap.size wq wr)) (fun _ i _ => l.length - (intOf i).toNat)
  case atStart => exact ⟨0, none, 0, [], Nat.zero_le _, rfl, rfl, Lib.hid rfl, Lib.hid (OwnE.nil _ _), Lib.hid rfl, Lib.hid (fun y h => by cases h), Lib.hid (Below.refl _ _)⟩
  case round =>
    obtain ⟨k, A3, c3, Lo, hk, rfl, rfl, HLO, HOW, HMAP, HMD, HBE⟩ := hrel
    by_cases hlt : k < l.length
    · have hltI : (k : Int) < (l.length : Int) := by omega
      have HBW : Hid (Below w.heap.size w wr) := Lib.hid (HB1.out.trans (HBE.out.mono HB1.out.size))
      have hAw := HA.out.below HBW.out
      obtain ⟨b1, o1, rfl, _⟩ := hAw.form (by omega)
      obtain ⟨x0, x1, x2, x3, x4, x5, x6, x7⟩ := hAw.at_ hlt
      have HGK := Lib.hid (HG.out _ (List.getElem_mem hlt))
      have HCK := Lib.hid (hAw.2 _ (List.getElem_mem hlt))
      have HTK : Hid ((l.take (k + 1)).map (·.k) = (l.take k).map (·.k) ++ [l[k].k]) := Lib.hid (by rw [List.take_succ_eq_append_getElem hlt, List.map_append]; rfl)
      have HEW := Lib.hid (HE.out.below HBE.out)
      clear hAw
      generalize l[k] = y at x0 x1 x2 x3 x4 x5 x6 x7 HGK HCK HTK
      have hfit : Fit64 y.k.id := HGK.out.1.1
      have HFIT := Lib.hid hfit
      clear hfit
      obtain ⟨h, HH⟩ : ∃ h, Hid (wr.heap.size = h) := ⟨_, Lib.hid rfl⟩
      have hrow := eight_new wr 37 (.int .i64 y.k.id) (.slice y.opsA y.k.ops.length y.opsC) (.bool y.k.edited) (.bool y.k.removed) (.bool y.k.created) (.bool y.k.moved) (.int .i64 y.k.parent) (.string (bstr y.k.name))
      have HBX : Hid (Below wr.heap.size wr (wr.alloc (.cells #[.int .i64 y.k.id, .slice y.opsA y.k.ops.length y.opsC, .bool y.k.edited, .bool y.k.removed, .bool y.k.created, .bool y.k.moved, .int .i64 y.k.parent, .string (bstr y.k.name)] 37))) := Lib.hid ((Below.refl _ _).alloc (Nat.le_refl _) _)
      have HEX := Lib.hid (HEW.out.alloc (.cells #[.int .i64 y.k.id, .slice y.opsA y.k.ops.length y.opsC, .bool y.k.edited, .bool y.k.removed, .bool y.k.created, .bool y.k.moved, .int .i64 y.k.parent, .string (bstr y.k.name)] 37))
      have hlk := map_look HEX.out.own HFIT.out (HEX.out.at_ y.k.id)
      have GB := Lib.hid (effBehind_any y.opsA y.opsC y.k.ops HGK.out.2.1 HGK.out.1.2.2.2.2.2 (S y.k.id).1 (S y.k.id).2 (rowsE m y.k.id) (Nat.le_trans (rowsE_len m y.k.id) hm) (fun x hx => by
        obtain ⟨a, ha, rfl⟩ := rowsE_mem hx
        exact (HGM.out a ha).2.1) (wr.alloc (.cells #[.int .i64 y.k.id, .slice y.opsA y.k.ops.length y.opsC, .bool y.k.edited, .bool y.k.removed, .bool y.k.created, .bool y.k.moved, .int .i64 y.k.parent, .string (bstr y.k.name)] 37)) ⟨HCK.out.below HBX.out, HGK.out.1.2.2.2.2.1⟩ (rowsC_of (HEX.out.row y.k.id) (fun x hx => by
        obtain ⟨a, ha, rfl⟩ := rowsE_mem hx
        exact ⟨((HBC.out a ha).below HBW.out).below HBX.out, (HGM.out a ha).1.2.2.2.2.2.1⟩)))
      have HOV := Lib.hid (over_rows m y.k)
      obtain ⟨rows, HRW⟩ : ∃ x, Hid (rowsE m y.k.id = x) := ⟨_, Lib.hid rfl⟩
      rw [HRW.out] at hlk GB HOV
      generalize S y.k.id = sv at hlk GB
      obtain ⟨sA, sC⟩ := sv
      simp only at hlk GB
      rw [HH.out] at hrow
      have HROW := Lib.hid (hrow)
      clear hrow
      go_wp2_with fail
      refine (GB.out).mono ?_
      rintro e w3 ⟨⟨A2, c2, r, rfl, hr, hc2, hh2, hcm2, hsrc⟩, hb3⟩
      rw [HH.out]
      have hr3 := HROW.out.of_block (hb3.block _ HROW.out.lt)
      have HSZX : Hid ((wr.alloc (.cells #[.int .i64 y.k.id, .slice y.opsA y.k.ops.length y.opsC, .bool y.k.edited, .bool y.k.removed, .bool y.k.created, .bool y.k.moved, .int .i64 y.k.parent, .string (bstr y.k.name)] 37)).heap.size = h + 1) := Lib.hid (by rw [← HH.out]; simp)
      have hb3w : Below wr.heap.size wr w3 := HBX.out.trans (hb3.mono HBX.out.size)
      have q1 := hr3.cell (i := 1) (by omega)
      have f1 := hr3.frozen 1
      have hr4 := hr3.set 1 (.slice A2 r.length c2)
      have hrow4 : World.rowIs _ h 37 8 (eightV (.int .i64 y.k.id) (.slice A2 r.length c2) (.bool y.k.edited) (.bool y.k.removed) (.bool y.k.created) (.bool y.k.moved) (.int .i64 y.k.parent) (.string (bstr y.k.name))) := hr4.congr fun i hi => by rcases (show i = 0 ∨ i = 1 ∨ i = 2 ∨ i = 3 ∨ i = 4 ∨ i = 5 ∨ i = 6 ∨ i = 7 by omega) with rfl | rfl | rfl | rfl | rfl | rfl | rfl | rfl <;> rfl
      have HB4 : Hid (Below wr.heap.size wr (w3.setCell ⟨h, 1, none⟩ (.slice A2 r.length c2))) := Lib.hid (hb3w.setCell (by show wr.heap.size ≤ h; rw [HH.out]; exact Nat.le_refl _) _)
      have HC4 : Hid (CompsAt (w3.setCell ⟨h, 1, none⟩ (.slice A2 r.length c2)) A2 r) := Lib.hid (by
        rcases hsrc with ⟨rfl, rfl⟩ | hown
        · exact HCK.out.below HB4.out
        · exact CellsAt.of_own (ownsRow_setCell_below (a := ⟨h, 1, none⟩) hown (by show h < _; rw [HSZX.out]; omega) _))
      obtain ⟨z0, z1, z2, z3, z4, z5, z6, z7⟩ := eight_cells hrow4
      have HZK : Hid ((⟨y.k.id, r, y.k.edited, y.k.removed, y.k.created, y.k.moved, y.k.parent, y.k.name⟩ : OneK) = overOne m y.k) := Lib.hid (by rw [HOV.out, hr])
      have HZG : Hid ((⟨⟨y.k.id, r, y.k.edited, y.k.removed, y.k.created, y.k.moved, y.k.parent, y.k.name⟩, A2, c2⟩ : OneV).Good) := Lib.hid ⟨HGK.out.1.1, HGK.out.1.2.1, HGK.out.1.2.2.1, hh2.good, hc2.2, hcm2⟩
      have GO := Lib.hid (effOwn_any ⟨⟨y.k.id, r, y.k.edited, y.k.removed, y.k.created, y.k.moved, y.k.parent, y.k.name⟩, A2, c2⟩ HZG.out ⟨hh2, HGK.out.2.2⟩ (w3.setCell ⟨h, 1, none⟩ (.slice A2 r.length c2)) HC4.out)
      unfold oneCells at GO
      simp only at GO
      clear hr3 hr4 hrow4 hb3 hb3w hsrc hc2 hh2 hcm2 hr hlk x0 x1 x2 x3 x4 x5 x6 x7
      go_wp2_with fail
      refine (GO.out).mono ?_
      rintro e w5 ⟨⟨A5, c5, rfl, h1, h2, hown5⟩, hb5⟩
      have HB5 : Hid (Below wr.heap.size wr w5) := Lib.hid (HB4.out.trans (hb5.mono HB4.out.size))
      have HM5 : Hid (Made1 w5 wq.heap.size ⟨⟨y.k.id, r, y.k.edited, y.k.removed, y.k.created, y.k.moved, y.k.parent, y.k.name⟩, A5, c5⟩) := Lib.hid ⟨⟨HZG.out.1, HZG.out.2.1, HZG.out.2.2.1, HZG.out.2.2.2.1, h1, h2⟩, own_base hown5 (Nat.le_trans HBE.out.size HB4.out.size)⟩
      have HLL : Hid (Lo.length ≤ 1048576) := Lib.hid (by have := HLO.out; omega)
      clear q1 f1 z0 z1 z2 z3 z4 z5 z6 z7 h1 h2 hown5 hb5 GO GB
      have HBL := Lib.hid ((Below.refl w5.heap.size w5).alloc (Nat.le_refl _) (Obj.cells (oneCells ⟨⟨y.k.id, r, y.k.edited, y.k.removed, y.k.created, y.k.moved, y.k.parent, y.k.name⟩, A5, c5⟩).toArray 37))
      have HB6 := Lib.hid (HB5.out.trans (HBL.out.mono HB5.out.size))
      have HM6 : Hid (Made1 _ wq.heap.size ⟨⟨y.k.id, r, y.k.edited, y.k.removed, y.k.created, y.k.moved, y.k.parent, y.k.name⟩, A5, c5⟩) := Lib.hid ⟨HM5.out.1, own_below HM5.out.2 HBL.out⟩
      have hll := HLL.out
      go_wp2_with (at_builtin
                   go_loud (refine wpList_onee_keep rfl (.tmp 25) (.tmp 28) rfl (B := wq.heap.size) (out := Lo) (m := [⟨⟨y.k.id, r, y.k.edited, y.k.removed, y.k.created, y.k.moved, y.k.parent, y.k.name⟩, A5, c5⟩]) (HOW.out.below HB6.out) (Nat.le_trans HBE.out.size HB6.out.size) 1 (onee_lit w5 ⟨⟨y.k.id, r, y.k.edited, y.k.removed, y.k.created, y.k.moved, y.k.parent, y.k.name⟩, A5, c5⟩ _ rfl) (by simp; omega) rfl rfl ?_)
                   intro A7 c7 w7 hown hbel hkeep
                   have HO7 := Lib.hid hown
                   have HBE7 := Lib.hid ((HBE.out.trans (HB6.out.mono HBE.out.size)).trans hbel)
                   have HMD7 : Hid (∀ z ∈ Lo ++ [⟨⟨y.k.id, r, y.k.edited, y.k.removed, y.k.created, y.k.moved, y.k.parent, y.k.name⟩, A5, c5⟩], Made1 w7 wq.heap.size z) := Lib.hid (fun z hz => by
                     rcases List.mem_append.1 hz with hz | hz
                     · exact ⟨(HMD.out z hz).1, hkeep _ _ _ _ _ (own_below (HMD.out z hz).2 HB6.out)⟩
                     · rw [List.mem_singleton.1 hz]; exact ⟨HM6.out.1, hkeep _ _ _ _ _ HM6.out.2⟩)
                   clear hown hbel hkeep)
      have HMAP7 : Hid ((Lo ++ [(⟨⟨y.k.id, r, y.k.edited, y.k.removed, y.k.created, y.k.moved, y.k.parent, y.k.name⟩, A5, c5⟩ : OneV)]).map (fun z : OneV => z.k) = overK ((l.take (k + 1)).map (·.k)) m) := Lib.hid (by
        rw [HTK.out]
        unfold overK
        rw [List.map_append, List.map_append, HMAP.out]
        unfold overK
        rw [List.map_singleton, List.map_singleton, HZK.out])
      go_roundw
      case rel => exact ⟨k + 1, A7, c7, _, by omega, by go_num, by rw [List.length_append]; rfl, Lib.hid (by rw [List.length_append, HLO.out]; rfl), HO7, HMAP7, HMD7, HBE7⟩
      case measure => simp [intOf]; omega
    · obtain rfl : k = l.length := by omega
      have hltI : ¬ (l.length : Int) < (l.length : Int) := by omega
      rw [List.take_length] at HMAP
      go_wp2
      go_ret
      exact ⟨Lo, A3, c3, rfl, wq.heap.size, HOW.out, HMAP.out, HMD.out, HB1.out.size, HB1.out.trans (HBE.out.mono HB1.out.size)⟩
end Go.Proofs.Ytnadhpajelkngaa
