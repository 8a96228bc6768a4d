/- The landed tree's Do: any act, by its kind; of a nil tree. Conditions: a tree, an act that may be. -/
import Derived.Test.YtkckgchohnkkpaaGreatMTTreeDoC
import Derived.Test.YtkckgchohnkkpaaGreatMTTreeDoR
import Derived.Test.YtkckgchohnkkpaaGreatMTTreeDoM
import Derived.Test.YtkckgchohnkkpaaGreatMTTreeDoE
/- The landed tree's Do: any act, by its kind; of a nil tree. Conditions: a tree, an act that may be. -/
namespace Go.Proofs.YtkckgchohnkkpaaGreat
open Go.RowKit Go.Deep

set_option maxHeartbeats 2000000 in
set_option maxRecDepth 100000 in
theorem do_any (g : Nat) (l : List NodeV) (a : ActV) (hm : TreeM l) (ha : ActOk a) (w : World) (h : TreeAt w g l) (hop : CompsAt w a.opsA a.ops) :
    Calls Tryz.prog 15 #[.pointer (some ⟨g, 0, none⟩), .agg (actCells a).toArray] w (DoRes w g l a) := by
  have HT := Lib.hid h
  have HTW : Hid (∀ w', Below w.heap.size w w' → TreeAt w' g l) := fun w' hb => HT.out.below hb
  have HR := Lib.hid (act_row w a)
  have hmf : ∀ (fn : Fn) (first cap : Array Value) (w : World), (Instr.makeFunc fn first cap).run Tryz.prog w = .ok (.func fn first cap) w := fun _ _ _ _ => rfl
  have GC := Lib.hid (fun hk w1 (hb : Below w.heap.size w w1) => create_any g l a hm ha hk w1 (HTW.out _ hb) (hop.below hb))
  have GR := Lib.hid (fun hk w1 (hb : Below w.heap.size w w1) => remove_any g l a hm ha hk w1 (HTW.out _ hb) (hop.below hb))
  have GM := Lib.hid (fun hk w1 (hb : Below w.heap.size w w1) => move_any g l a hm ha hk w1 (HTW.out _ hb) (hop.below hb))
  have GE := Lib.hid (fun hk w1 (hb : Below w.heap.size w w1) => edit_any g l a hm ha hk w1 (HTW.out _ hb) (hop.below hb))
  have HO := Lib.hid (fun h1 h2 h3 h4 => rDo_o (l := l) (a := a) h1 h2 h3 h4)
  unfold actCells at GC GR GM GE ⊢
  clear hm ha hop h
  obtain ⟨kd, id, pa, nm, dr, oA, oC, ops⟩ := a
  simp only at HR GC GR GM GE HO ⊢
  have HBA := Lib.hid ((Below.refl w.heap.size w).alloc (Nat.le_refl _) (.cells #[.int .i64 kd, .int .i64 id, .int .i64 pa, .string (bstr nm), .bool dr, .slice oA ops.length oC] 46))
  obtain ⟨w1, HW1⟩ : ∃ x, Hid (w.alloc (.cells #[.int .i64 kd, .int .i64 id, .int .i64 pa, .string (bstr nm), .bool dr, .slice oA ops.length oC] 46) = x) := ⟨_, Lib.hid rfl⟩
  rw [HW1.out] at HR HBA
  have HRES : Hid (∀ e w', DoRes w1 g l ⟨kd, id, pa, nm, dr, oA, oC, ops⟩ e w' → DoRes w g l ⟨kd, id, pa, nm, dr, oA, oC, ops⟩ e w') := fun e w' hr => by
    obtain ⟨h1, h2, h3⟩ := hr.out
    exact doRes_of (m := (rDo l _).1) (u := (rDo l _).2) rfl h1 h2 ((Only.of_below HBA.out).trans h3)
  by_cases hk1 : kd = 1
  · subst hk1
    have G := Lib.hid (GC.out rfl w1 HBA.out)
    clear GC GR GM GE HO
    obtain ⟨q0, q1, q2, q3, q4, q5⟩ := act_row_at HR.out
    simp only at q0 q1 q2 q3 q4 q5
    rw [← HW1.out] at q0 q1 q2 q3 q4 q5
    go_enter Tryz.func15, Tryz.ntmps15
    go_wp2_with fail
    rw [HW1.out]
    refine (G.out).mono ?_
    rintro e w2 hres
    have HRS := Lib.hid (HRES.out _ _ hres).out
    clear q0 q1 q2 q3 q4 q5
    obtain ⟨rfl, _⟩ := (hres).out
    clear hres
    go_wp2
    go_ret
    exact doRes_of (m := (rDo l _).1) (u := (rDo l _).2) rfl rfl HRS.out.2.1 HRS.out.2.2
  by_cases hk2 : kd = 2
  · subst hk2
    have G := Lib.hid (GR.out rfl w1 HBA.out)
    clear GC GR GM GE HO
    obtain ⟨q0, q1, q2, q3, q4, q5⟩ := act_row_at HR.out
    simp only at q0 q1 q2 q3 q4 q5
    rw [← HW1.out] at q0 q1 q2 q3 q4 q5
    go_enter Tryz.func15, Tryz.ntmps15
    go_wp2_with fail
    rw [HW1.out]
    refine (G.out).mono ?_
    rintro e w2 hres
    have HRS := Lib.hid (HRES.out _ _ hres).out
    clear q0 q1 q2 q3 q4 q5
    obtain ⟨rfl, _⟩ := (hres).out
    clear hres
    go_wp2
    go_ret
    exact doRes_of (m := (rDo l _).1) (u := (rDo l _).2) rfl rfl HRS.out.2.1 HRS.out.2.2
  by_cases hk3 : kd = 3
  · subst hk3
    have G := Lib.hid (GM.out rfl w1 HBA.out)
    clear GC GR GM GE HO
    obtain ⟨q0, q1, q2, q3, q4, q5⟩ := act_row_at HR.out
    simp only at q0 q1 q2 q3 q4 q5
    rw [← HW1.out] at q0 q1 q2 q3 q4 q5
    go_enter Tryz.func15, Tryz.ntmps15
    go_wp2_with fail
    rw [HW1.out]
    refine (G.out).mono ?_
    rintro e w2 hres
    have HRS := Lib.hid (HRES.out _ _ hres).out
    clear q0 q1 q2 q3 q4 q5
    obtain ⟨rfl, _⟩ := (hres).out
    clear hres
    go_wp2
    go_ret
    exact doRes_of (m := (rDo l _).1) (u := (rDo l _).2) rfl rfl HRS.out.2.1 HRS.out.2.2
  by_cases hk4 : kd = 4
  · subst hk4
    have G := Lib.hid (GE.out rfl w1 HBA.out)
    clear GC GR GM GE HO
    obtain ⟨q0, q1, q2, q3, q4, q5⟩ := act_row_at HR.out
    simp only at q0 q1 q2 q3 q4 q5
    rw [← HW1.out] at q0 q1 q2 q3 q4 q5
    go_enter Tryz.func15, Tryz.ntmps15
    go_wp2_with fail
    rw [HW1.out]
    refine (G.out).mono ?_
    rintro e w2 hres
    have HRS := Lib.hid (HRES.out _ _ hres).out
    clear q0 q1 q2 q3 q4 q5
    obtain ⟨rfl, _⟩ := (hres).out
    clear hres
    go_wp2
    go_ret
    exact doRes_of (m := (rDo l _).1) (u := (rDo l _).2) rfl rfl HRS.out.2.1 HRS.out.2.2
  have HE := Lib.hid (HO.out hk1 hk2 hk3 hk4)
  have e1 : (kd == 1) = false := beq_eq_false_iff_ne.2 hk1
  have e2 : (kd == 2) = false := beq_eq_false_iff_ne.2 hk2
  have e3 : (kd == 3) = false := beq_eq_false_iff_ne.2 hk3
  have e4 : (kd == 4) = false := beq_eq_false_iff_ne.2 hk4
  clear GC GR GM GE HO hk1 hk2 hk3 hk4
  go_enter Tryz.func15, Tryz.ntmps15
  go_wp2
  rw [HW1.out]
  go_ret
  exact doRes_of HE.out rfl (HTW.out _ HBA.out) (Only.of_below HBA.out)

set_option maxRecDepth 100000 in
theorem do_nil (a : ActV) (w : World) :
    Calls Tryz.prog 15 #[.pointer none, .agg (actCells a).toArray] w fun e w' => e = .returned (.int .i64 (if a.kind < 1 ∨ 4 < a.kind then 1 else 5)) ∧ Below w.heap.size w w' := by
  have hmf : ∀ (fn : Fn) (first cap : Array Value) (w : World), (Instr.makeFunc fn first cap).run Tryz.prog w = .ok (.func fn first cap) w := fun _ _ _ _ => rfl
  unfold actCells
  obtain ⟨kd, id, pa, nm, dr, oA, oC, ops⟩ := a
  simp only
  have HBA := Lib.hid ((Below.refl w.heap.size w).alloc (Nat.le_refl _) (.cells #[.int .i64 kd, .int .i64 id, .int .i64 pa, .string (bstr nm), .bool dr, .slice oA ops.length oC] 46))
  by_cases hk1 : kd = 1
  · subst hk1
    rw [if_neg (by omega)]
    go_enter Tryz.func15, Tryz.ntmps15
    go_wp2
    go_ret
    exact ⟨rfl, HBA.out⟩
  by_cases hk2 : kd = 2
  · subst hk2
    rw [if_neg (by omega)]
    go_enter Tryz.func15, Tryz.ntmps15
    go_wp2
    go_ret
    exact ⟨rfl, HBA.out⟩
  by_cases hk3 : kd = 3
  · subst hk3
    rw [if_neg (by omega)]
    go_enter Tryz.func15, Tryz.ntmps15
    go_wp2
    go_ret
    exact ⟨rfl, HBA.out⟩
  by_cases hk4 : kd = 4
  · subst hk4
    rw [if_neg (by omega)]
    go_enter Tryz.func15, Tryz.ntmps15
    go_wp2
    go_ret
    exact ⟨rfl, HBA.out⟩
  rw [if_pos (by omega)]
  have e1 : (kd == 1) = false := beq_eq_false_iff_ne.2 hk1
  have e2 : (kd == 2) = false := beq_eq_false_iff_ne.2 hk2
  have e3 : (kd == 3) = false := beq_eq_false_iff_ne.2 hk3
  have e4 : (kd == 4) = false := beq_eq_false_iff_ne.2 hk4
  clear hk1 hk2 hk3 hk4
  go_enter Tryz.func15, Tryz.ntmps15
  go_wp2
  go_ret
  exact ⟨rfl, HBA.out⟩
end Go.Proofs.YtkckgchohnkkpaaGreat
