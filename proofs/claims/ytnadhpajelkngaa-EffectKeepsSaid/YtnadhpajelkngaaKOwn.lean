/- The landed effect's own: the same record, its name and its parts in new memory. Condition: what may be looked at. (Merged of 2 texts.) -/
import Derived.Test.YtnadhpajelkngaaKSm
import Derived.Test.YtnadhpajelkngaaKPp
import Derived.Test.YtnadhpajelkngaaKCs
import Derived.Test.YtnadhpajelkngaaKUs
import Derived.Test.YtnadhpajelkngaaKRow
import Derived.Test.YtnadhpajelkngaaKOne
import Derived.Test.YtnadhpajelkngaaKBase
import Derived.Deep.CutRange
/- The landed effect's copied: the same parts, in new memory. Condition: no more than 2^40 of them, no text longer than that. -/
namespace Go.Proofs.Ytnadhpajelkngaa
open Go.RowKit Go.Deep

set_option maxHeartbeats 2000000 in
set_option maxRecDepth 100000 in
theorem efCopied_any (A : Option Addr) (ca : Nat) (l : List CompV) (hlen : l.length ≤ 1099511627776) (hf : ∀ y ∈ l, y.text.length ≤ 1099511627776) (w : World) (hA : CompsAt w A l) :
    Calls Try.prog 45 #[.slice A l.length ca] w fun e w' => (∃ A' c', e = .returned (.slice A' l.length c') ∧ w'.ownsRow w.heap.size 54 3 (.slice A' l.length c') l.length (l.flatMap compCells)) ∧ Below w.heap.size w w' := by
  have HA := Lib.hid hA
  have HF := Lib.hid hf
  clear hA hf
  go_enter Try.func45, Try.ntmps45
  go_wp2
  go_loopw [3, 5, 8] (fun o p i wr => ∃ (k : Nat) (A0 : Option Addr) (c0 : Nat), k ≤ l.length ∧ i = .int .i64 k ∧ o = .slice A0 (l.take k).length c0 ∧ wr.ownsRow w.heap.size 54 3 (.slice A0 (l.take k).length c0) (l.take k).length ((l.take k).flatMap compCells) ∧ Below w.heap.size w wr) (fun _ _ i _ => l.length - (intOf i).toNat)
  case atStart => exact ⟨0, none, 0, Nat.zero_le _, rfl, rfl, World.ownsRow_nil _ _ _ _, Below.refl _ _⟩
  case round =>
    obtain ⟨k, A0, c0, hk, rfl, rfl, hown, hb⟩ := hrel
    have HOWN := Lib.hid hown
    have HB := Lib.hid hb
    clear hown hb
    by_cases hlt : k < l.length
    · obtain ⟨b, off, rfl, _⟩ := HA.out.form (by omega)
      obtain ⟨x0, x1, x2⟩ := (HA.out.below HB.out).at_ hlt
      have HFX := Lib.hid (HF.out _ (List.getElem_mem hlt))
      have HTK : Hid (l.take (k + 1) = l.take k ++ [l[k]]) := List.take_succ_eq_append_getElem hlt
      have HLT : Hid ((l.take k).length = k) := by show _ = _; rw [List.length_take]; omega
      generalize l[k] = c at x0 x1 x2 HFX HTK
      obtain ⟨kd, n, t⟩ := c
      simp only at x0 x1 x2 HFX
      generalize l.take k = P at HOWN HTK HLT ⊢
      have GC := Lib.hid (fun w => stringsClone_any (bstr t) w (by rw [bstr_size]; have := HFX.out; omega))
      have hr := cm_new wr kd n t
      have HR := Lib.hid hr
      have HB1 : Hid (Below wr.heap.size wr (wr.alloc (.cells #[.int .i64 kd, .int .i64 n, .string (bstr t)] 54))) := (Below.refl _ _).alloc (Nat.le_refl _) _
      have r0 := (cm_row hr).2.2
      clear hr
      go_wp2_with fail
      refine (GC.out _).mono ?_
      rintro e w2 ⟨rfl, hb2⟩
      have hr := HR.out.of_block (hb2.block _ HR.out.lt)
      have y2 := (cm_row hr).2.2
      have yf := hr.frozen 2
      have hr2 := hr.set 2 (.string (bstr t))
      have z0 := hr2.cell (i := 0) (by omega)
      have z1 := hr2.cell (i := 1) (by omega)
      have z2 := hr2.cell (i := 2) (by omega)
      have HB2 : Hid (Below wr.heap.size wr (w2.setCell ⟨wr.heap.size, 2, none⟩ (.string (bstr t)))) := (HB1.out.trans (hb2.mono HB1.out.size)).setCell (by show wr.heap.size ≤ wr.heap.size; omega) _
      have z0' : (w2.setCell ⟨wr.heap.size, 2, none⟩ (.string (bstr t))).cell? ⟨wr.heap.size, 0, none⟩ = some (.int .i64 kd) := z0
      have z1' : (w2.setCell ⟨wr.heap.size, 2, none⟩ (.string (bstr t))).cell? ⟨wr.heap.size, 1, none⟩ = some (.int .i64 n) := z1
      have z2' : (w2.setCell ⟨wr.heap.size, 2, none⟩ (.string (bstr t))).cell? ⟨wr.heap.size, 2, none⟩ = some (.string (bstr t)) := z2
      have HOW2 := Lib.hid (own_below HOWN.out HB2.out)
      have HUP : Hid (w.heap.size ≤ (w2.setCell ⟨wr.heap.size, 2, none⟩ (.string (bstr t))).heap.size) := Nat.le_trans HB.out.size HB2.out.size
      have HBW : Hid (Below w.heap.size w (w2.setCell ⟨wr.heap.size, 2, none⟩ (.string (bstr t)))) := HB.out.trans (HB2.out.mono HB.out.size)
      clear hr hr2 hb2 x0 x1 x2 r0 z0 z1 z2
      go_wp2_with (at_builtin
                   go_loud (refine wpList_pushB rfl (.tmp 16) (.tmp 18) rfl w.heap.size (.slice A0 P.length c0) P ⟨kd, n, t⟩ rfl HOW2.out HUP.out (Eq.trans (rfl : _ = Value.slice (some ⟨w2.heap.size, 0, none⟩) 1 1) (by simp [World.setCell])) (by have := HLT.out; omega) ?_)
                   intro out' A5 c5 w5 hout hown hbel
                   have HOUT := Lib.hid hout
                   have HOWN5 := Lib.hid hown
                   have HBEL := Lib.hid (HBW.out.trans hbel)
                   clear hout hown hbel)
      go_roundw
      case rel => exact ⟨k + 1, A5, c5, by omega, by go_num, by rw [HTK.out, ← HOUT.out], by rw [HTK.out, ← HOUT.out]; exact HOWN5.out, HBEL.out⟩
      case measure => simp [intOf]; omega
    · have hke : l.take k = l := List.take_of_length_le (by omega)
      rw [hke] at HOWN ⊢
      clear hke
      go_wp2
      go_ret
      exact ⟨⟨A0, c0, rfl, HOWN.out⟩, HB.out⟩
end Go.Proofs.Ytnadhpajelkngaa

/- The landed effect's own: the same record, its name and its parts in new memory. Condition: what may be looked at. -/
namespace Go.Proofs.Ytnadhpajelkngaa
open Go.RowKit Go.Deep

def owS0 : Sched Nat := (.quiet 6 (.one 5 (.one 7 (.quiet 8 (.one 9 .done)))))
def owS1 : Sched Nat := (.one 2 owS0)
def owS : Sched Nat := (.quiet 0 (.quiet 3 (.two 1 (.two 2 (.one 4 owS0) 4 owS1) 4 (.one 1 owS1))))
theorem own_room {w : World} {base : Nat} {e : TypeId} {size : Nat} {A : Option Addr} {n c : Nat} {xs : List Value} (h : w.ownsRow base e size (.slice A n c) n xs) : n ≤ c ∧ c ≤ maxLen := by
  rcases h.2 with ⟨h1, h2⟩ | ⟨g, cap, cur, h1, _, _, h2, h3, _⟩
  · injection h1 with _ _ h1
    omega
  · injection h1 with _ _ h1
    omega
set_option maxHeartbeats 8000000 in
set_option maxRecDepth 100000 in
theorem effOwn_any (x : OneV) (hx : x.Good) (hk : KeyH x.k) (w : World) (hA : CompsAt w x.opsA x.k.ops) :
    Calls Try.prog 28 #[.agg (oneCells x).toArray] w fun e w' => (∃ A2 c2, e = .returned (.agg (oneCells ⟨x.k, A2, c2⟩).toArray) ∧ x.k.ops.length ≤ c2 ∧ c2 ≤ maxLen ∧ w'.ownsRow w.heap.size 54 3 (.slice A2 x.k.ops.length c2) x.k.ops.length (x.k.ops.flatMap compCells)) ∧ Below w.heap.size w w' := by
  have hlen := hk.1.len
  have htx : ∀ y ∈ x.k.ops, y.text.length ≤ 1099511627776 := fun y hy => by have := tlen_mem hy; have := hk.1.text; omega
  have hnl := hk.2
  have HGOOD := Lib.hid hx
  have GO := Lib.hid (fun (W : World) (h : Below w.heap.size w W) => efCopied_any x.opsA x.opsC x.k.ops (by omega) htx W (hA.below h))
  have GC := Lib.hid (fun W => stringsClone_any (bstr x.k.name) W (by rw [bstr_size]; omega))
  clear hx hk hA hlen htx hnl
  obtain ⟨⟨xi, xo, x2, x3, x4, x5, xp, xn⟩, xA, xC⟩ := x
  unfold oneCells
  simp only at GO GC
  obtain ⟨g, hg⟩ : ∃ g, g = w.heap.size := ⟨_, rfl⟩
  have HR1 := Lib.hid ((eight_new w 37 (.int .i64 xi) (.slice xA xo.length xC) (.bool x2) (.bool x3) (.bool x4) (.bool x5) (.int .i64 xp) (.string (bstr xn))).alloc (Obj.cells #[.int .i64 0, .slice none 0 0, .bool false, .bool false, .bool false, .bool false, .int .i64 0, .string { data := #[] }] 37))
  have HR2 := Lib.hid (eight_new (w.alloc (.cells #[.int .i64 xi, .slice xA xo.length xC, .bool x2, .bool x3, .bool x4, .bool x5, .int .i64 xp, .string (bstr xn)] 37)) 37 (.int .i64 0) (.slice none 0 0) (.bool false) (.bool false) (.bool false) (.bool false) (.int .i64 0) (.string { data := #[] }))
  rw [World.size_alloc, ← hg] at HR2
  rw [← hg] at HR1
  have HB1 : Hid (Below g w ((w.alloc (.cells #[.int .i64 xi, .slice xA xo.length xC, .bool x2, .bool x3, .bool x4, .bool x5, .int .i64 xp, .string (bstr xn)] 37)).alloc (.cells #[.int .i64 0, .slice none 0 0, .bool false, .bool false, .bool false, .bool false, .int .i64 0, .string { data := #[] }] 37))) := Lib.hid (by rw [hg]; exact ((Below.refl _ _).alloc (Nat.le_refl _) _).alloc (by simp) _)
  have HG := Lib.hid hg
  clear hg
  go_enter Try.func28, Try.ntmps28
  go_upto_region 1 with fail
  rw [← HG.out]
  obtain ⟨W0, HW0⟩ : ∃ x, Hid (((w.alloc (.cells #[.int .i64 xi, .slice xA xo.length xC, .bool x2, .bool x3, .bool x4, .bool x5, .int .i64 xp, .string (bstr xn)] 37)).alloc (.cells #[.int .i64 0, .slice none 0 0, .bool false, .bool false, .bool false, .bool false, .int .i64 0, .string { data := #[] }] 37)) = x) := ⟨_, Lib.hid rfl⟩
  rw [HW0.out] at HR1 HR2 HB1 ⊢
  clear HW0
  refine Sched.wp_region_free owS (by kernel_rfl) (by kernel_rfl) (fun _ _ d _ _ h => by cases d <;> exact h) ?_
  replace HR1 : Hid (World.rowIs _ g 37 8 (eightV (.int .i64 xi) (.slice xA xo.length xC) (.bool x2) (.bool x3) (.bool x4) (.bool x5) (.int .i64 xp) (.string (bstr xn)))) := Lib.hid HR1.out.drew
  replace HR2 := Lib.hid HR2.out.drew
  replace HB1 := Lib.hid HB1.out.drew
  generalize World.drew _ = wd at HR1 HR2 HB1 ⊢
  simp only [owS, Sched.picked, List.getElem?_cons_succ, List.getElem?_cons_zero, Option.getD_some]
  repeat (first | (refine Sched.walkF_quiet (by rfl) (fun K hK => ?_); go_big_quiet_op; refine hK _ ?_; clear hK K) | (refine Sched.walkF_skip_quiet (by rfl) ?_; simp only [Act.put, List.setIfInBounds_toArray, List.set_cons_zero, List.set_cons_succ]))
  refine Sched.walkF_two ?_ ?_
  · skip
    have hld := (eight_cells HR1.out).2.2.2.2.2.2.2
    refine Sched.walkF_one (by rfl) (fun K hK => ?_)
    go_simp
    refine hK _ _ ?_
    clear hK K hld
    repeat (first | (refine Sched.walkF_quiet (by rfl) (fun K hK => ?_); go_big_quiet_op; refine hK _ ?_; clear hK K) | (refine Sched.walkF_skip_quiet (by rfl) ?_; simp only [Act.put, List.setIfInBounds_toArray, List.set_cons_zero, List.set_cons_succ]))
    refine Sched.walkF_two ?_ ?_
    · skip
      refine Sched.walkF_one (by rfl) (fun K hK => ?_)
      go_simp
      refine (GC.out _).mono ?_
      rintro e v1 ⟨rfl, hb⟩
      refine hK _ _ ?_
      clear hK K
      replace HR1 := Lib.hid (HR1.out.of_block (hb.block _ HR1.out.lt))
      replace HR2 := Lib.hid (HR2.out.of_block (hb.block _ HR2.out.lt))
      replace HB1 := Lib.hid (HB1.out.trans (hb.mono (Nat.le_trans (by rw [HG.out]; exact Nat.le_refl _) HB1.out.size)))
      clear hb
      repeat (first | (refine Sched.walkF_quiet (by rfl) (fun K hK => ?_); go_big_quiet_op; refine hK _ ?_; clear hK K) | (refine Sched.walkF_skip_quiet (by rfl) ?_; simp only [Act.put, List.setIfInBounds_toArray, List.set_cons_zero, List.set_cons_succ]))
      have hld := (eight_cells HR1.out).2.1
      refine Sched.walkF_one (by rfl) (fun K hK => ?_)
      go_simp
      refine hK _ _ ?_
      clear hK K hld
      repeat (first | (refine Sched.walkF_quiet (by rfl) (fun K hK => ?_); go_big_quiet_op; refine hK _ ?_; clear hK K) | (refine Sched.walkF_skip_quiet (by rfl) ?_; simp only [Act.put, List.setIfInBounds_toArray, List.set_cons_zero, List.set_cons_succ]))
      simp only [owS0, Sched.picked, List.getElem?_cons_succ, List.getElem?_cons_zero, Option.getD_some]
      repeat (first | (refine Sched.walkF_quiet (by rfl) (fun K hK => ?_); go_big_quiet_op; refine hK _ ?_; clear hK K) | (refine Sched.walkF_skip_quiet (by rfl) ?_; simp only [Act.put, List.setIfInBounds_toArray, List.set_cons_zero, List.set_cons_succ]))
      refine Sched.walkF_one (by rfl) (fun K hK => ?_)
      go_simp
      refine (GO.out _ (by rw [← HG.out]; exact HB1.out)).mono ?_
      rintro e v2 ⟨⟨A2, c2, rfl, hown⟩, hb⟩
      refine hK _ _ ?_
      clear hK K
      have hgs := HR1.out.lt
      have hgs2 := HR2.out.lt
      replace HR1 := Lib.hid (HR1.out.of_block (hb.block _ hgs))
      replace HR2 := Lib.hid (HR2.out.of_block (hb.block _ hgs2))
      replace HB1 := Lib.hid (HB1.out.trans (hb.mono (Nat.le_of_lt hgs)))
      have HOWN := Lib.hid (own_base hown (base' := g + 2) (by omega))
      clear hb hown hgs hgs2
      repeat (first | (refine Sched.walkF_quiet (by rfl) (fun K hK => ?_); go_big_quiet_op; refine hK _ ?_; clear hK K) | (refine Sched.walkF_skip_quiet (by rfl) ?_; simp only [Act.put, List.setIfInBounds_toArray, List.set_cons_zero, List.set_cons_succ]))
      have hc7 := HR1.out.cell (i := 7) (by omega)
      have hf7 := HR1.out.frozen 7
      refine Sched.walkF_one (by rfl) (fun K hK => ?_)
      go_simp
      refine hK _ _ ?_
      clear hK K hc7 hf7
      replace HR1 := Lib.hid (HR1.out.set 7 (.string (bstr xn)))
      replace HR2 := Lib.hid (HR2.out.setOther (a := ⟨g, 7, none⟩) (by show g + 1 ≠ g; omega) (.string (bstr xn)))
      replace HB1 := Lib.hid (HB1.out.setCell (p := ⟨g, 7, none⟩) (Nat.le_refl g) (.string (bstr xn)))
      replace HOWN := Lib.hid (ownsRow_setCell_below (a := ⟨g, 7, none⟩) HOWN.out (by show g < g + 2; omega) (.string (bstr xn)))
      repeat (first | (refine Sched.walkF_quiet (by rfl) (fun K hK => ?_); go_big_quiet_op; refine hK _ ?_; clear hK K) | (refine Sched.walkF_skip_quiet (by rfl) ?_; simp only [Act.put, List.setIfInBounds_toArray, List.set_cons_zero, List.set_cons_succ]))
      have hc1 := HR1.out.cell (i := 1) (by omega)
      have hf1 := HR1.out.frozen 1
      refine Sched.walkF_one (by rfl) (fun K hK => ?_)
      go_simp
      refine hK _ _ ?_
      clear hK K hc1 hf1
      replace HR1 := Lib.hid (HR1.out.set 1 (.slice A2 xo.length c2))
      replace HR2 := Lib.hid (HR2.out.setOther (a := ⟨g, 1, none⟩) (by show g + 1 ≠ g; omega) (.slice A2 xo.length c2))
      replace HB1 := Lib.hid (HB1.out.setCell (p := ⟨g, 1, none⟩) (Nat.le_refl g) (.slice A2 xo.length c2))
      replace HOWN := Lib.hid (ownsRow_setCell_below (a := ⟨g, 1, none⟩) HOWN.out (by show g < g + 2; omega) (.slice A2 xo.length c2))
      skip
      generalize World.setCell _ _ _ = v6 at HR1 HR2 HB1 HOWN ⊢
      refine Sched.walkF_done ?_
      have hrow : World.rowIs v6 g 37 8 (eightV (.int .i64 xi) (.slice A2 xo.length c2) (.bool x2) (.bool x3) (.bool x4) (.bool x5) (.int .i64 xp) (.string (bstr xn))) := HR1.out.congr fun i hi => by rcases (show i = 0 ∨ i = 1 ∨ i = 2 ∨ i = 3 ∨ i = 4 ∨ i = 5 ∨ i = 6 ∨ i = 7 by omega) with rfl | rfl | rfl | rfl | rfl | rfl | rfl | rfl <;> rfl
      obtain ⟨z0, z1, z2, z3, z4, z5, z6, z7⟩ := eight_cells hrow
      obtain ⟨⟨a0, f0⟩, ⟨a1, f1⟩, ⟨a2, f2⟩, ⟨a3, f3⟩, ⟨a4, f4⟩, ⟨a5, f5⟩, ⟨a6, f6⟩, ⟨a7, f7⟩, hres⟩ := eight_set HR2.out (.int .i64 xi) (.slice A2 xo.length c2) (.bool x2) (.bool x3) (.bool x4) (.bool x5) (.int .i64 xp) (.string (bstr xn))
      have HRES := Lib.hid (eight_row hres)
      clear hrow hres
      go_wp2
      refine bodyPost_ret (results_cell_row rfl _ _ (g + 1) 37 #[.int .i64 xi, .slice A2 xo.length c2, .bool x2, .bool x3, .bool x4, .bool x5, .int .i64 xp, .string (bstr xn)] (0, 0) _ rfl HRES.out Try.underlying37 rfl (by kernel_rfl)) rfl ?_
      have hroom := own_room HOWN.out
      refine ⟨⟨A2, c2, rfl, hroom.1, hroom.2, ?_⟩, ?_⟩
      · exact own_base (ownsRow_setCell_below (a := ⟨g + 1, 7, none⟩) (ownsRow_setCell_below (a := ⟨g + 1, 6, none⟩) (ownsRow_setCell_below (a := ⟨g + 1, 5, none⟩) (ownsRow_setCell_below (a := ⟨g + 1, 4, none⟩) (ownsRow_setCell_below (a := ⟨g + 1, 3, none⟩) (ownsRow_setCell_below (a := ⟨g + 1, 2, none⟩) (ownsRow_setCell_below (a := ⟨g + 1, 1, none⟩) (ownsRow_setCell_below (a := ⟨g + 1, 0, none⟩) HOWN.out (by show g + 1 < g + 2; omega) _) (by show g + 1 < g + 2; omega) _) (by show g + 1 < g + 2; omega) _) (by show g + 1 < g + 2; omega) _) (by show g + 1 < g + 2; omega) _) (by show g + 1 < g + 2; omega) _) (by show g + 1 < g + 2; omega) _) (by show g + 1 < g + 2; omega) _) (by rw [← HG.out]; omega)
      · rw [← HG.out]
        exact ((((((((HB1.out).setCell (p := ⟨g + 1, 0, none⟩) (Nat.le_succ g) _).setCell (p := ⟨g + 1, 1, none⟩) (Nat.le_succ g) _).setCell (p := ⟨g + 1, 2, none⟩) (Nat.le_succ g) _).setCell (p := ⟨g + 1, 3, none⟩) (Nat.le_succ g) _).setCell (p := ⟨g + 1, 4, none⟩) (Nat.le_succ g) _).setCell (p := ⟨g + 1, 5, none⟩) (Nat.le_succ g) _).setCell (p := ⟨g + 1, 6, none⟩) (Nat.le_succ g) _).setCell (p := ⟨g + 1, 7, none⟩) (Nat.le_succ g) _
    · skip
      have hld := (eight_cells HR1.out).2.1
      refine Sched.walkF_one (by rfl) (fun K hK => ?_)
      go_simp
      refine hK _ _ ?_
      clear hK K hld
      repeat (first | (refine Sched.walkF_quiet (by rfl) (fun K hK => ?_); go_big_quiet_op; refine hK _ ?_; clear hK K) | (refine Sched.walkF_skip_quiet (by rfl) ?_; simp only [Act.put, List.setIfInBounds_toArray, List.set_cons_zero, List.set_cons_succ]))
      simp only [owS1, Sched.picked, List.getElem?_cons_succ, List.getElem?_cons_zero, Option.getD_some]
      refine Sched.walkF_one (by rfl) (fun K hK => ?_)
      go_simp
      refine (GC.out _).mono ?_
      rintro e v1 ⟨rfl, hb⟩
      refine hK _ _ ?_
      clear hK K
      replace HR1 := Lib.hid (HR1.out.of_block (hb.block _ HR1.out.lt))
      replace HR2 := Lib.hid (HR2.out.of_block (hb.block _ HR2.out.lt))
      replace HB1 := Lib.hid (HB1.out.trans (hb.mono (Nat.le_trans (by rw [HG.out]; exact Nat.le_refl _) HB1.out.size)))
      clear hb
      repeat (first | (refine Sched.walkF_quiet (by rfl) (fun K hK => ?_); go_big_quiet_op; refine hK _ ?_; clear hK K) | (refine Sched.walkF_skip_quiet (by rfl) ?_; simp only [Act.put, List.setIfInBounds_toArray, List.set_cons_zero, List.set_cons_succ]))
      simp only [owS0, Sched.picked, List.getElem?_cons_succ, List.getElem?_cons_zero, Option.getD_some]
      repeat (first | (refine Sched.walkF_quiet (by rfl) (fun K hK => ?_); go_big_quiet_op; refine hK _ ?_; clear hK K) | (refine Sched.walkF_skip_quiet (by rfl) ?_; simp only [Act.put, List.setIfInBounds_toArray, List.set_cons_zero, List.set_cons_succ]))
      refine Sched.walkF_one (by rfl) (fun K hK => ?_)
      go_simp
      refine (GO.out _ (by rw [← HG.out]; exact HB1.out)).mono ?_
      rintro e v2 ⟨⟨A2, c2, rfl, hown⟩, hb⟩
      refine hK _ _ ?_
      clear hK K
      have hgs := HR1.out.lt
      have hgs2 := HR2.out.lt
      replace HR1 := Lib.hid (HR1.out.of_block (hb.block _ hgs))
      replace HR2 := Lib.hid (HR2.out.of_block (hb.block _ hgs2))
      replace HB1 := Lib.hid (HB1.out.trans (hb.mono (Nat.le_of_lt hgs)))
      have HOWN := Lib.hid (own_base hown (base' := g + 2) (by omega))
      clear hb hown hgs hgs2
      repeat (first | (refine Sched.walkF_quiet (by rfl) (fun K hK => ?_); go_big_quiet_op; refine hK _ ?_; clear hK K) | (refine Sched.walkF_skip_quiet (by rfl) ?_; simp only [Act.put, List.setIfInBounds_toArray, List.set_cons_zero, List.set_cons_succ]))
      have hc7 := HR1.out.cell (i := 7) (by omega)
      have hf7 := HR1.out.frozen 7
      refine Sched.walkF_one (by rfl) (fun K hK => ?_)
      go_simp
      refine hK _ _ ?_
      clear hK K hc7 hf7
      replace HR1 := Lib.hid (HR1.out.set 7 (.string (bstr xn)))
      replace HR2 := Lib.hid (HR2.out.setOther (a := ⟨g, 7, none⟩) (by show g + 1 ≠ g; omega) (.string (bstr xn)))
      replace HB1 := Lib.hid (HB1.out.setCell (p := ⟨g, 7, none⟩) (Nat.le_refl g) (.string (bstr xn)))
      replace HOWN := Lib.hid (ownsRow_setCell_below (a := ⟨g, 7, none⟩) HOWN.out (by show g < g + 2; omega) (.string (bstr xn)))
      repeat (first | (refine Sched.walkF_quiet (by rfl) (fun K hK => ?_); go_big_quiet_op; refine hK _ ?_; clear hK K) | (refine Sched.walkF_skip_quiet (by rfl) ?_; simp only [Act.put, List.setIfInBounds_toArray, List.set_cons_zero, List.set_cons_succ]))
      have hc1 := HR1.out.cell (i := 1) (by omega)
      have hf1 := HR1.out.frozen 1
      refine Sched.walkF_one (by rfl) (fun K hK => ?_)
      go_simp
      refine hK _ _ ?_
      clear hK K hc1 hf1
      replace HR1 := Lib.hid (HR1.out.set 1 (.slice A2 xo.length c2))
      replace HR2 := Lib.hid (HR2.out.setOther (a := ⟨g, 1, none⟩) (by show g + 1 ≠ g; omega) (.slice A2 xo.length c2))
      replace HB1 := Lib.hid (HB1.out.setCell (p := ⟨g, 1, none⟩) (Nat.le_refl g) (.slice A2 xo.length c2))
      replace HOWN := Lib.hid (ownsRow_setCell_below (a := ⟨g, 1, none⟩) HOWN.out (by show g < g + 2; omega) (.slice A2 xo.length c2))
      skip
      generalize World.setCell _ _ _ = v6 at HR1 HR2 HB1 HOWN ⊢
      refine Sched.walkF_done ?_
      have hrow : World.rowIs v6 g 37 8 (eightV (.int .i64 xi) (.slice A2 xo.length c2) (.bool x2) (.bool x3) (.bool x4) (.bool x5) (.int .i64 xp) (.string (bstr xn))) := HR1.out.congr fun i hi => by rcases (show i = 0 ∨ i = 1 ∨ i = 2 ∨ i = 3 ∨ i = 4 ∨ i = 5 ∨ i = 6 ∨ i = 7 by omega) with rfl | rfl | rfl | rfl | rfl | rfl | rfl | rfl <;> rfl
      obtain ⟨z0, z1, z2, z3, z4, z5, z6, z7⟩ := eight_cells hrow
      obtain ⟨⟨a0, f0⟩, ⟨a1, f1⟩, ⟨a2, f2⟩, ⟨a3, f3⟩, ⟨a4, f4⟩, ⟨a5, f5⟩, ⟨a6, f6⟩, ⟨a7, f7⟩, hres⟩ := eight_set HR2.out (.int .i64 xi) (.slice A2 xo.length c2) (.bool x2) (.bool x3) (.bool x4) (.bool x5) (.int .i64 xp) (.string (bstr xn))
      have HRES := Lib.hid (eight_row hres)
      clear hrow hres
      go_wp2
      refine bodyPost_ret (results_cell_row rfl _ _ (g + 1) 37 #[.int .i64 xi, .slice A2 xo.length c2, .bool x2, .bool x3, .bool x4, .bool x5, .int .i64 xp, .string (bstr xn)] (0, 0) _ rfl HRES.out Try.underlying37 rfl (by kernel_rfl)) rfl ?_
      have hroom := own_room HOWN.out
      refine ⟨⟨A2, c2, rfl, hroom.1, hroom.2, ?_⟩, ?_⟩
      · exact own_base (ownsRow_setCell_below (a := ⟨g + 1, 7, none⟩) (ownsRow_setCell_below (a := ⟨g + 1, 6, none⟩) (ownsRow_setCell_below (a := ⟨g + 1, 5, none⟩) (ownsRow_setCell_below (a := ⟨g + 1, 4, none⟩) (ownsRow_setCell_below (a := ⟨g + 1, 3, none⟩) (ownsRow_setCell_below (a := ⟨g + 1, 2, none⟩) (ownsRow_setCell_below (a := ⟨g + 1, 1, none⟩) (ownsRow_setCell_below (a := ⟨g + 1, 0, none⟩) HOWN.out (by show g + 1 < g + 2; omega) _) (by show g + 1 < g + 2; omega) _) (by show g + 1 < g + 2; omega) _) (by show g + 1 < g + 2; omega) _) (by show g + 1 < g + 2; omega) _) (by show g + 1 < g + 2; omega) _) (by show g + 1 < g + 2; omega) _) (by show g + 1 < g + 2; omega) _) (by rw [← HG.out]; omega)
      · rw [← HG.out]
        exact ((((((((HB1.out).setCell (p := ⟨g + 1, 0, none⟩) (Nat.le_succ g) _).setCell (p := ⟨g + 1, 1, none⟩) (Nat.le_succ g) _).setCell (p := ⟨g + 1, 2, none⟩) (Nat.le_succ g) _).setCell (p := ⟨g + 1, 3, none⟩) (Nat.le_succ g) _).setCell (p := ⟨g + 1, 4, none⟩) (Nat.le_succ g) _).setCell (p := ⟨g + 1, 5, none⟩) (Nat.le_succ g) _).setCell (p := ⟨g + 1, 6, none⟩) (Nat.le_succ g) _).setCell (p := ⟨g + 1, 7, none⟩) (Nat.le_succ g) _
  · skip
    have hld := (eight_cells HR1.out).2.1
    refine Sched.walkF_one (by rfl) (fun K hK => ?_)
    go_simp
    refine hK _ _ ?_
    clear hK K hld
    repeat (first | (refine Sched.walkF_quiet (by rfl) (fun K hK => ?_); go_big_quiet_op; refine hK _ ?_; clear hK K) | (refine Sched.walkF_skip_quiet (by rfl) ?_; simp only [Act.put, List.setIfInBounds_toArray, List.set_cons_zero, List.set_cons_succ]))
    have hld := (eight_cells HR1.out).2.2.2.2.2.2.2
    refine Sched.walkF_one (by rfl) (fun K hK => ?_)
    go_simp
    refine hK _ _ ?_
    clear hK K hld
    repeat (first | (refine Sched.walkF_quiet (by rfl) (fun K hK => ?_); go_big_quiet_op; refine hK _ ?_; clear hK K) | (refine Sched.walkF_skip_quiet (by rfl) ?_; simp only [Act.put, List.setIfInBounds_toArray, List.set_cons_zero, List.set_cons_succ]))
    simp only [owS1, Sched.picked, List.getElem?_cons_succ, List.getElem?_cons_zero, Option.getD_some]
    refine Sched.walkF_one (by rfl) (fun K hK => ?_)
    go_simp
    refine (GC.out _).mono ?_
    rintro e v1 ⟨rfl, hb⟩
    refine hK _ _ ?_
    clear hK K
    replace HR1 := Lib.hid (HR1.out.of_block (hb.block _ HR1.out.lt))
    replace HR2 := Lib.hid (HR2.out.of_block (hb.block _ HR2.out.lt))
    replace HB1 := Lib.hid (HB1.out.trans (hb.mono (Nat.le_trans (by rw [HG.out]; exact Nat.le_refl _) HB1.out.size)))
    clear hb
    repeat (first | (refine Sched.walkF_quiet (by rfl) (fun K hK => ?_); go_big_quiet_op; refine hK _ ?_; clear hK K) | (refine Sched.walkF_skip_quiet (by rfl) ?_; simp only [Act.put, List.setIfInBounds_toArray, List.set_cons_zero, List.set_cons_succ]))
    simp only [owS0, Sched.picked, List.getElem?_cons_succ, List.getElem?_cons_zero, Option.getD_some]
    repeat (first | (refine Sched.walkF_quiet (by rfl) (fun K hK => ?_); go_big_quiet_op; refine hK _ ?_; clear hK K) | (refine Sched.walkF_skip_quiet (by rfl) ?_; simp only [Act.put, List.setIfInBounds_toArray, List.set_cons_zero, List.set_cons_succ]))
    refine Sched.walkF_one (by rfl) (fun K hK => ?_)
    go_simp
    refine (GO.out _ (by rw [← HG.out]; exact HB1.out)).mono ?_
    rintro e v2 ⟨⟨A2, c2, rfl, hown⟩, hb⟩
    refine hK _ _ ?_
    clear hK K
    have hgs := HR1.out.lt
    have hgs2 := HR2.out.lt
    replace HR1 := Lib.hid (HR1.out.of_block (hb.block _ hgs))
    replace HR2 := Lib.hid (HR2.out.of_block (hb.block _ hgs2))
    replace HB1 := Lib.hid (HB1.out.trans (hb.mono (Nat.le_of_lt hgs)))
    have HOWN := Lib.hid (own_base hown (base' := g + 2) (by omega))
    clear hb hown hgs hgs2
    repeat (first | (refine Sched.walkF_quiet (by rfl) (fun K hK => ?_); go_big_quiet_op; refine hK _ ?_; clear hK K) | (refine Sched.walkF_skip_quiet (by rfl) ?_; simp only [Act.put, List.setIfInBounds_toArray, List.set_cons_zero, List.set_cons_succ]))
    have hc7 := HR1.out.cell (i := 7) (by omega)
    have hf7 := HR1.out.frozen 7
    refine Sched.walkF_one (by rfl) (fun K hK => ?_)
    go_simp
    refine hK _ _ ?_
    clear hK K hc7 hf7
    replace HR1 := Lib.hid (HR1.out.set 7 (.string (bstr xn)))
    replace HR2 := Lib.hid (HR2.out.setOther (a := ⟨g, 7, none⟩) (by show g + 1 ≠ g; omega) (.string (bstr xn)))
    replace HB1 := Lib.hid (HB1.out.setCell (p := ⟨g, 7, none⟩) (Nat.le_refl g) (.string (bstr xn)))
    replace HOWN := Lib.hid (ownsRow_setCell_below (a := ⟨g, 7, none⟩) HOWN.out (by show g < g + 2; omega) (.string (bstr xn)))
    repeat (first | (refine Sched.walkF_quiet (by rfl) (fun K hK => ?_); go_big_quiet_op; refine hK _ ?_; clear hK K) | (refine Sched.walkF_skip_quiet (by rfl) ?_; simp only [Act.put, List.setIfInBounds_toArray, List.set_cons_zero, List.set_cons_succ]))
    have hc1 := HR1.out.cell (i := 1) (by omega)
    have hf1 := HR1.out.frozen 1
    refine Sched.walkF_one (by rfl) (fun K hK => ?_)
    go_simp
    refine hK _ _ ?_
    clear hK K hc1 hf1
    replace HR1 := Lib.hid (HR1.out.set 1 (.slice A2 xo.length c2))
    replace HR2 := Lib.hid (HR2.out.setOther (a := ⟨g, 1, none⟩) (by show g + 1 ≠ g; omega) (.slice A2 xo.length c2))
    replace HB1 := Lib.hid (HB1.out.setCell (p := ⟨g, 1, none⟩) (Nat.le_refl g) (.slice A2 xo.length c2))
    replace HOWN := Lib.hid (ownsRow_setCell_below (a := ⟨g, 1, none⟩) HOWN.out (by show g < g + 2; omega) (.slice A2 xo.length c2))
    skip
    generalize World.setCell _ _ _ = v6 at HR1 HR2 HB1 HOWN ⊢
    refine Sched.walkF_done ?_
    have hrow : World.rowIs v6 g 37 8 (eightV (.int .i64 xi) (.slice A2 xo.length c2) (.bool x2) (.bool x3) (.bool x4) (.bool x5) (.int .i64 xp) (.string (bstr xn))) := HR1.out.congr fun i hi => by rcases (show i = 0 ∨ i = 1 ∨ i = 2 ∨ i = 3 ∨ i = 4 ∨ i = 5 ∨ i = 6 ∨ i = 7 by omega) with rfl | rfl | rfl | rfl | rfl | rfl | rfl | rfl <;> rfl
    obtain ⟨z0, z1, z2, z3, z4, z5, z6, z7⟩ := eight_cells hrow
    obtain ⟨⟨a0, f0⟩, ⟨a1, f1⟩, ⟨a2, f2⟩, ⟨a3, f3⟩, ⟨a4, f4⟩, ⟨a5, f5⟩, ⟨a6, f6⟩, ⟨a7, f7⟩, hres⟩ := eight_set HR2.out (.int .i64 xi) (.slice A2 xo.length c2) (.bool x2) (.bool x3) (.bool x4) (.bool x5) (.int .i64 xp) (.string (bstr xn))
    have HRES := Lib.hid (eight_row hres)
    clear hrow hres
    go_wp2
    refine bodyPost_ret (results_cell_row rfl _ _ (g + 1) 37 #[.int .i64 xi, .slice A2 xo.length c2, .bool x2, .bool x3, .bool x4, .bool x5, .int .i64 xp, .string (bstr xn)] (0, 0) _ rfl HRES.out Try.underlying37 rfl (by kernel_rfl)) rfl ?_
    have hroom := own_room HOWN.out
    refine ⟨⟨A2, c2, rfl, hroom.1, hroom.2, ?_⟩, ?_⟩
    · exact own_base (ownsRow_setCell_below (a := ⟨g + 1, 7, none⟩) (ownsRow_setCell_below (a := ⟨g + 1, 6, none⟩) (ownsRow_setCell_below (a := ⟨g + 1, 5, none⟩) (ownsRow_setCell_below (a := ⟨g + 1, 4, none⟩) (ownsRow_setCell_below (a := ⟨g + 1, 3, none⟩) (ownsRow_setCell_below (a := ⟨g + 1, 2, none⟩) (ownsRow_setCell_below (a := ⟨g + 1, 1, none⟩) (ownsRow_setCell_below (a := ⟨g + 1, 0, none⟩) HOWN.out (by show g + 1 < g + 2; omega) _) (by show g + 1 < g + 2; omega) _) (by show g + 1 < g + 2; omega) _) (by show g + 1 < g + 2; omega) _) (by show g + 1 < g + 2; omega) _) (by show g + 1 < g + 2; omega) _) (by show g + 1 < g + 2; omega) _) (by show g + 1 < g + 2; omega) _) (by rw [← HG.out]; omega)
    · rw [← HG.out]
      exact ((((((((HB1.out).setCell (p := ⟨g + 1, 0, none⟩) (Nat.le_succ g) _).setCell (p := ⟨g + 1, 1, none⟩) (Nat.le_succ g) _).setCell (p := ⟨g + 1, 2, none⟩) (Nat.le_succ g) _).setCell (p := ⟨g + 1, 3, none⟩) (Nat.le_succ g) _).setCell (p := ⟨g + 1, 4, none⟩) (Nat.le_succ g) _).setCell (p := ⟨g + 1, 5, none⟩) (Nat.le_succ g) _).setCell (p := ⟨g + 1, 6, none⟩) (Nat.le_succ g) _).setCell (p := ⟨g + 1, 7, none⟩) (Nat.le_succ g) _
end Go.Proofs.Ytnadhpajelkngaa
