/- The landed part of xform: the first part, counted, and those behind it. Condition: no part of more than 4000 code points. -/
import Derived.Test.YtnadhpajelkngaaKSm
import Derived.Test.YtnadhpajelkngaaKPair
import Derived.Test.YtnadhpajelkngaaKOp
import Derived.Test.YtnadhpajelkngaaKCs
import Derived.Laws.ResultCell
import Derived.BigRegion
/- The landed part of xform: the first part, counted, and those behind it. Condition: no part of more than 4000 code points. -/
namespace Go.Proofs.Ytnadhpajelkngaa
open Go.RowKit Go.Deep

theorem results_two_row {P : Program} {fn : Func} {p u : Tmp} {ty : TypeId} (h : fn.results = #[.cell p ty, .tmp u]) (tmps : Array Value) (w : World) (g : Nat) (t : TypeId) (cs : Array Value) (fr : Nat × Nat) (d : TypeDesc)
    (hp : tmps.getD p undef = .pointer (some ⟨g, 0, none⟩)) (hg : w.heap[g]? = some (.cells cs t fr))
    (hu : P.underlying ty = some d) (hd : (match d with | .struct _ | .array _ _ => true | _ => false) = true) (hi : (P.info? ty).map (·.size) = some cs.size) :
    (results fn tmps).run P w = .ok (.tuple #[.agg cs, tmps.getD u undef]) w := by
  rw [results_cell_tmp h, hp]
  simp [asAddr, Result.andThen, run_loadVar_row w g t ty cs fr d hg hu hd hi]

theorem comps_first (A : Option Addr) (n c : Nat) (hk : 1 ≤ c) (w : World) : (Instr.slice 22 (.slice A n c) none (some (.int .i64 1)) none).run Try.prog w = .ok (.slice (addrHigh A c) 1 c) w := by
  rw [run_slice_h (P := Try.prog) (w := w) 22 A n c (by rw [elem_comps]; exact Try.underlying22) .i64 (1 : Int) (by omega) (by omega), elem_comps, size_comp]
  simp [Result.andThen, sliced, addrHigh]

theorem wh_good {c : CompV} (h : Wh c) (hs : sz c ≤ 4000) : c.Good ∧ c.text.length ≤ 16000 := by
  have hn : 0 ≤ c.n ∧ c.n ≤ 4000 := by
    rcases h.cases with g | g | g
    · rw [sz_not (by omega)] at hs; omega
    · rw [sz_not (by omega)] at hs; omega
    · omega
  have ht : c.text.length ≤ 16000 := wh_small h hs
  refine ⟨⟨?_, by unfold Fit64; omega, ?_, by unfold maxLen; omega⟩, ht⟩
  · rcases h.cases with ⟨g, _⟩ | ⟨g, _⟩ | ⟨g, _⟩ <;> (rw [g]; unfold Fit64; omega)
  · rcases h.cases with ⟨_, _, g⟩ | ⟨_, _, g⟩ | ⟨_, _, _, vs, g⟩
    · rw [g]; exact fun x hx => by cases hx
    · rw [g]; exact fun x hx => by cases hx
    · rw [← g.bytes]; exact E_lt g.may
theorem wh_fine {c : CompV} (h : Wh c) (hs : sz c ≤ 4000) : c.Good ∧ c.text.length ≤ 1099511627776 := ⟨(wh_good h hs).1, by have := (wh_good h hs).2; omega⟩

/-- A list's first part, its N telling how many code points it has; none of none. -/
noncomputable def partOf : List CompV → CompV
  | [] => ⟨0, 0, []⟩
  | c :: _ => ⟨c.kind, (sz c : Int), c.text⟩
def PartEnd (A0 : Option Addr) (c0 : Nat) (l : List CompV) (W : World) (e : Ending) (w' : World) : Prop :=
  ∃ A c, e = .returned (.tuple #[.agg #[.int .i64 (partOf l).kind, .int .i64 (partOf l).n, .string (bstr (partOf l).text)], .slice A l.tail.length c]) ∧ (∀ w0, CompsC w0 A0 c0 l → CompsC w0 A c l.tail) ∧ Below W.heap.size W w'
theorem out_one_part {c : CompV} (h : Wh c) (hs : sz c ≤ 4000) (hk : c.kind = 2) : rOut [c] = (sz c : Int) := by
  obtain ⟨vs, hv⟩ : ∃ vs, V c.text vs := by
    rcases h.cases with g | g | g
    · omega
    · omega
    · exact g.2.2.2
  have e : rOut [c] = outStep 0 c := rfl
  rw [e, outStep, if_neg (by omega), if_pos hk, hv.loose, sz_two hk, cps_of hv]
  have : vs.length ≤ 4000 := by rw [sz_two hk, cps_of hv] at hs; exact hs
  unfold hld
  omega

set_option maxHeartbeats 2000000 in
set_option maxRecDepth 100000 in
theorem xfPart_any (A : Option Addr) (ca : Nat) (l : List CompV) (hl : ∀ c ∈ l, Wh c ∧ sz c ≤ 4000) (hlen : l.length ≤ maxLen) (w : World) (hA : CompsC w A ca l) :
    Calls Try.prog 66 #[.slice A l.length ca] w (PartEnd A ca l w) := by
  cases l with
  | nil =>
    have HB : Hid (Below w.heap.size w (w.alloc (Obj.cells #[.int .i64 0, .int .i64 0, .string { data := #[] }] 54))) := (Below.refl _ _).alloc (Nat.le_refl _) _
    have h0 := cm_new w 0 0 []
    obtain ⟨a0, a1, a2, a3, a4, a5, hrow⟩ := three h0 (.int .i64 0) (.int .i64 0) (.string (bstr []))
    clear hrow h0 hA hlen hl
    go_enter Try.func66, Try.ntmps66
    go_wp2
    refine bodyPost_ret (results_two_row rfl _ _ w.heap.size 54 #[.int .i64 0, .int .i64 0, .string (bstr [])] (0, 0) _ rfl (heap_alloc_new w _) Try.underlying54 rfl (by kernel_rfl)) rfl ?_
    exact ⟨none, 0, rfl, fun _ _ => ⟨.inl rfl, Nat.le_refl _⟩, HB.out⟩
  | cons c l =>
    obtain ⟨b, off, A', rfl, hb, y0, y1, y2, hsl, hA', hlc⟩ := comps_next hA.1 hA.2
    have HC := Lib.hid (hl c (by simp))
    have HNX : Hid (∀ w0, CompsC w0 (some ⟨b, off, none⟩) ca (c :: l) → CompsC w0 A' (ca - 1) l) := by
      intro w0 h0
      obtain ⟨b', off', A'', e, _, _, _, _, hsl', hA'', hc''⟩ := comps_next h0.1 h0.2
      injection e with e
      injection e with e1 e2 _
      subst e1 e2
      have e3 := (hsl w0).symm.trans (hsl' w0)
      injection e3 with e3 _
      injection e3 with e3 _ _
      subst e3
      exact ⟨hA'', hc''⟩
    have HA0 : Hid (CompsAt w (addrHigh (some ⟨b, off, none⟩) ca) [c]) := by
      have h1 : ca ≠ 0 := by have := hA.2; simp only [List.length_cons] at this; omega
      rw [addrHigh, if_neg h1]
      exact CompsAt.below (w := w) (by
        have := hA.1
        rcases this with h | ⟨b', off', e, hlt, hcc⟩
        · exact absurd (congrArg List.length h) (by simp [compCells])
        · injection e with e
          injection e with e1 e2
          subst e1 e2
          refine .inr ⟨b, off, rfl, hlt, fun j v hj => hcc j v ?_⟩
          rw [List.flatMap_cons, List.getElem?_append_left]
          · simpa using hj
          · have := (List.getElem?_eq_some_iff.1 hj).1
            simpa [compCells] using this) (Below.refl _ _)
    have HF1 : Hid (∀ w, CompsAt w (addrHigh (some ⟨b, off, none⟩) ca) [c] → Calls Try.prog 62 #[.slice (addrHigh (some ⟨b, off, none⟩) ca) 1 ca] w fun e w' => e = .returned (.int .i64 (rOut [c])) ∧ Below w.heap.size w w') := fun w h =>
      opOut_any _ ca [c] (by unfold maxLen; simp) (by
        intro y hy
        rw [List.mem_singleton.1 hy]
        exact wh_fine HC.out.1 HC.out.2) w h
    have hs0 := comps_first (some ⟨b, off, none⟩) (l.length + 1) ca (by have := hA.2; simp only [List.length_cons] at this; omega)
    have HB1 : Hid (Below w.heap.size w (w.alloc (Obj.cells #[.int .i64 0, .int .i64 0, .string { data := #[] }] 54))) := (Below.refl _ _).alloc (Nat.le_refl _) _
    rw [← HB1.out.cell (p := ⟨b, off, none⟩) hb] at y0
    rw [← HB1.out.cell (p := ⟨b, off + 1, none⟩) hb] at y1
    rw [← HB1.out.cell (p := ⟨b, off + 2, none⟩) hb] at y2
    obtain ⟨kd, n, t⟩ := c
    simp only at y0 y1 y2
    have hr1 := (cm_new w 0 0 []).alloc (Obj.cells #[.int .i64 kd, .int .i64 n, .string (bstr t)] 54)
    have hr2 := cm_new (w.alloc (.cells #[.int .i64 0, .int .i64 0, .string (bstr [])] 54)) kd n t
    have hsz1 : (w.alloc (.cells #[.int .i64 0, .int .i64 0, .string (bstr [])] 54)).heap.size = w.heap.size + 1 := by simp
    rw [hsz1] at hr2
    have hb0 : Below w.heap.size w ((w.alloc (.cells #[.int .i64 0, .int .i64 0, .string { data := #[] }] 54)).alloc (Obj.cells #[.int .i64 kd, .int .i64 n, .string (bstr t)] 54)) := ((Below.refl _ _).alloc (Nat.le_refl _) _).alloc (by simp) _
    have HWL : Hid (((w.alloc (.cells #[.int .i64 0, .int .i64 0, .string { data := #[] }] 54)).alloc (Obj.cells #[.int .i64 kd, .int .i64 n, .string (bstr t)] 54)).heap.size = w.heap.size + 2) := by show _ = _; simp
    obtain ⟨w1, HW1⟩ : ∃ x, Hid (((w.alloc (Obj.cells #[.int .i64 0, .int .i64 0, .string { data := #[] }] 54)).alloc (Obj.cells #[.int .i64 kd, .int .i64 n, .string (bstr t)] 54)) = x) := ⟨_, rfl⟩
    replace hr1 : w1.rowIs w.heap.size 54 3 (cmCells 0 0 []) := by rw [← HW1.out]; exact hr1
    replace hr2 : w1.rowIs (w.heap.size + 1) 54 3 (cmCells kd n t) := by rw [← HW1.out]; exact hr2
    rw [HW1.out] at hb0 HWL
    have HR1 := Lib.hid hr1
    have HR2 := Lib.hid hr2
    have HB0 := Lib.hid hb0
    have HBB := Lib.hid hb
    obtain ⟨g, HG⟩ : ∃ x, Hid (w.heap.size = x) := ⟨_, rfl⟩
    clear hr1 hr2 hb0 hsz1 hb hl hlen hA hA' hlc
    rw [List.length_cons]
    have n1 : (((l.length + 1 : Nat) : Int) == 0) = false := beq_eq_false_iff_ne.2 (by omega)
    have n2 : ((l.length : Int) + 1 == 0) = false := beq_eq_false_iff_ne.2 (by omega)
    by_cases h2 : kd = 2
    · subst h2
      have HOU : Hid (rOut [⟨2, n, t⟩] = (sz ⟨2, n, t⟩ : Int)) := out_one_part HC.out.1 HC.out.2 rfl
      rw [HOU.out] at HF1
      obtain ⟨z, HZ⟩ : ∃ z, Hid (sz (⟨2, n, t⟩ : CompV) = z) := ⟨_, rfl⟩
      rw [HZ.out] at HF1
      go_enter Try.func66, Try.ntmps66
      go_wp2_with fail
      rw [HW1.out]
      refine (HF1.out _ (HA0.out.below HB0.out)).mono ?_
      rintro e w2 ⟨rfl, hb2⟩
      have s1 := HR1.out.of_block (hb2.block _ HR1.out.lt)
      have s2 := HR2.out.of_block (hb2.block _ HR2.out.lt)
      have x1 := (cm_row s2).2.1
      have xf := s2.frozen 1
      obtain ⟨w3, HW3⟩ : ∃ x, Hid (w2.setCell ⟨w.heap.size + 1, 1, none⟩ (.int .i64 (z : Int)) = x) := ⟨_, rfl⟩
      have HR1B : Hid (w3.rowIs w.heap.size 54 3 (cmCells 0 0 [])) := by show World.rowIs _ _ _ _ _; rw [← HW3.out]; exact s1.setOther (by show w.heap.size ≠ w.heap.size + 1; omega) _
      have HR2B : Hid (w3.rowIs (w.heap.size + 1) 54 3 (cmCells 2 (z : Int) t)) := by
        show World.rowIs _ _ _ _ _
        rw [← HW3.out]
        exact (s2.set 1 (.int .i64 (z : Int))).congr fun i hi => by rcases (show i = 0 ∨ i = 1 ∨ i = 2 by omega) with rfl | rfl | rfl <;> rfl
      have HB3 : Hid (Below w.heap.size w w3) := by
        show Below _ _ _
        rw [← HW3.out]
        exact (HB0.out.trans (hb2.mono HB0.out.size)).setCell (by show w.heap.size ≤ w.heap.size + 1; omega) _
      clear s1 s2 hb2 y0 y1 y2
      go_wp2_with fail
      rw [HW3.out]
      clear x1 xf
      have y0 := (cm_row HR2B.out).1
      have y1 := (cm_row HR2B.out).2.1
      have y2 := (cm_row HR2B.out).2.2
      obtain ⟨a0, a1, a2, a3, a4, a5, hrow⟩ := three HR1B.out (.int .i64 2) (.int .i64 (z : Int)) (.string (bstr t))
      have HROW := Lib.hid (show World.rowIs ((((w3.setCell ⟨w.heap.size, 0, none⟩ (.int .i64 2)).setCell ⟨w.heap.size, 1, none⟩ (.int .i64 (z : Int))).setCell ⟨w.heap.size, 2, none⟩ (.string (bstr t))).drew) w.heap.size 54 3 _ from hrow)
      have HBE : Hid (Below w.heap.size w ((((w3.setCell ⟨w.heap.size, 0, none⟩ (.int .i64 2)).setCell ⟨w.heap.size, 1, none⟩ (.int .i64 (z : Int))).setCell ⟨w.heap.size, 2, none⟩ (.string (bstr t))).drew)) :=
        (((HB3.out.setCell (by show w.heap.size ≤ w.heap.size; omega) _).setCell (by show w.heap.size ≤ w.heap.size; omega) _).setCell (by show w.heap.size ≤ w.heap.size; omega) _).drew
      clear hrow
      go_region
      clear a0 a1 a2 a3 a4 a5 y0 y1 y2
      generalize World.drew _ = w4 at HROW HBE ⊢
      go_wp2
      refine bodyPost_ret (results_two_row rfl _ _ w.heap.size 54 #[.int .i64 2, .int .i64 (z : Int), .string (bstr t)] (0, 0) _ rfl (rowIs_cells #[.int .i64 2, .int .i64 (z : Int), .string (bstr t)] HROW.out (fun i hi => by
        have hi' : i < 3 := hi
        have : i = 0 ∨ i = 1 ∨ i = 2 := by omega
        rcases this with rfl | rfl | rfl <;> rfl)) Try.underlying54 rfl (by kernel_rfl)) rfl ?_
      refine ⟨A', ca - 1, ?_, HNX.out, HBE.out⟩
      rw [partOf, HZ.out]
      rfl
    · have g2 : (kd == 2) = false := beq_eq_false_iff_ne.2 h2
      have HZE : Hid ((sz ⟨kd, n, t⟩ : Int) = n) := by
        show (sz (⟨kd, n, t⟩ : CompV) : Int) = n
        rw [sz_not h2]
        rcases HC.out.1.cases with g | g | g <;> (simp only at g ⊢; omega)
      have HR1B := HR1
      have HR2B := HR2
      have HB3 := HB0
      go_enter Try.func66, Try.ntmps66
      go_wp2_with fail
      rw [HW1.out]
      clear y0 y1 y2
      have y0 := (cm_row HR2B.out).1
      have y1 := (cm_row HR2B.out).2.1
      have y2 := (cm_row HR2B.out).2.2
      obtain ⟨a0, a1, a2, a3, a4, a5, hrow⟩ := three HR1B.out (.int .i64 kd) (.int .i64 n) (.string (bstr t))
      have HROW := Lib.hid (show World.rowIs ((((w1.setCell ⟨w.heap.size, 0, none⟩ (.int .i64 kd)).setCell ⟨w.heap.size, 1, none⟩ (.int .i64 n)).setCell ⟨w.heap.size, 2, none⟩ (.string (bstr t))).drew) w.heap.size 54 3 _ from hrow)
      have HBE : Hid (Below w.heap.size w ((((w1.setCell ⟨w.heap.size, 0, none⟩ (.int .i64 kd)).setCell ⟨w.heap.size, 1, none⟩ (.int .i64 n)).setCell ⟨w.heap.size, 2, none⟩ (.string (bstr t))).drew)) :=
        (((HB3.out.setCell (by show w.heap.size ≤ w.heap.size; omega) _).setCell (by show w.heap.size ≤ w.heap.size; omega) _).setCell (by show w.heap.size ≤ w.heap.size; omega) _).drew
      clear hrow
      go_region
      clear a0 a1 a2 a3 a4 a5 y0 y1 y2
      generalize World.drew _ = w4 at HROW HBE ⊢
      go_wp2
      refine bodyPost_ret (results_two_row rfl _ _ w.heap.size 54 #[.int .i64 kd, .int .i64 n, .string (bstr t)] (0, 0) _ rfl (rowIs_cells #[.int .i64 kd, .int .i64 n, .string (bstr t)] HROW.out (fun i hi => by
        have hi' : i < 3 := hi
        have : i = 0 ∨ i = 1 ∨ i = 2 := by omega
        rcases this with rfl | rfl | rfl <;> rfl)) Try.underlying54 rfl (by kernel_rfl)) rfl ?_
      refine ⟨A', ca - 1, ?_, HNX.out, HBE.out⟩
      rw [partOf, HZE.out]
      rfl
end Go.Proofs.Ytnadhpajelkngaa
