/- The contract of the statements' own awake: it answers true; what was there stays as it was. No condition. (Merged of 3 texts.) -/
import Derived.Test.YtmedaimndaaiiaaMTTreeDoC
import Derived.Test.YtmedaimndaaiiaaMChild
import Derived.Test.YtmedaimndaaiiaaMTTreeDoM
import Derived.Test.YtmedaimndaaiiaaMTTreeDoE
import Derived.Test.YtmedaimndaaiiaaMRk
import Derived.Test.YtmedaimndaaiiaaMTTreeOwn
import Derived.Test.YtmedaimndaaiiaaMCells
/- The landed tree's Do: any act, by its kind; of a nil tree. Conditions: a tree, an act that may be. -/
namespace Go.Proofs.Ytmedaimndaaiiaa
open Go.RowKit Go.Deep

set_option maxHeartbeats 2000000 in
set_option maxRecDepth 100000 in
theorem do_any (g : Nat) (l : List NodeV) (a : ActV) (hm : TreeM l) (ha : ActOk a) (w : World) (h : TreeAt w g l) (hop : CompsAt w a.opsA a.ops) :
    Calls Try.prog 17 #[.pointer (some ⟨g, 0, none⟩), .agg (actCells a).toArray] w (DoRes w g l a) := by
  have HT := Lib.hid h
  have HTW : Hid (∀ w', Below w.heap.size w w' → TreeAt w' g l) := fun w' hb => HT.out.below hb
  have HR := Lib.hid (act_row w a)
  have hmf : ∀ (fn : Fn) (first cap : Array Value) (w : World), (Instr.makeFunc fn first cap).run Try.prog w = .ok (.func fn first cap) w := fun _ _ _ _ => rfl
  have GC := Lib.hid (fun hk w1 (hb : Below w.heap.size w w1) => create_any g l a hm ha hk w1 (HTW.out _ hb) (hop.below hb))
  have GR := Lib.hid (fun hk w1 (hb : Below w.heap.size w w1) => remove_any g l a hm ha hk w1 (HTW.out _ hb) (hop.below hb))
  have GM := Lib.hid (fun hk w1 (hb : Below w.heap.size w w1) => move_any g l a hm ha hk w1 (HTW.out _ hb) (hop.below hb))
  have GE := Lib.hid (fun hk w1 (hb : Below w.heap.size w w1) => edit_any g l a hm ha hk w1 (HTW.out _ hb) (hop.below hb))
  have HO := Lib.hid (fun h1 h2 h3 h4 => rDo_o (l := l) (a := a) h1 h2 h3 h4)
  unfold actCells at GC GR GM GE ⊢
  clear hm ha hop h
  obtain ⟨kd, id, pa, nm, dr, oA, oC, ops⟩ := a
  simp only at HR GC GR GM GE HO ⊢
  have HBA := Lib.hid ((Below.refl w.heap.size w).alloc (Nat.le_refl _) (.cells #[.int .i64 kd, .int .i64 id, .int .i64 pa, .string (bstr nm), .bool dr, .slice oA ops.length oC] 26))
  obtain ⟨w1, HW1⟩ : ∃ x, Hid (w.alloc (.cells #[.int .i64 kd, .int .i64 id, .int .i64 pa, .string (bstr nm), .bool dr, .slice oA ops.length oC] 26) = x) := ⟨_, Lib.hid rfl⟩
  rw [HW1.out] at HR HBA
  have HRES : Hid (∀ e w', DoRes w1 g l ⟨kd, id, pa, nm, dr, oA, oC, ops⟩ e w' → DoRes w g l ⟨kd, id, pa, nm, dr, oA, oC, ops⟩ e w') := fun e w' hr => by
    obtain ⟨h1, h2, h3⟩ := hr.out
    exact doRes_of (m := (rDo l _).1) (u := (rDo l _).2) rfl h1 h2 ((Only.of_below HBA.out).trans h3)
  by_cases hk1 : kd = 1
  · subst hk1
    have G := Lib.hid (GC.out rfl w1 HBA.out)
    clear GC GR GM GE HO
    obtain ⟨q0, q1, q2, q3, q4, q5⟩ := act_row_at HR.out
    simp only at q0 q1 q2 q3 q4 q5
    rw [← HW1.out] at q0 q1 q2 q3 q4 q5
    go_enter Try.func17, Try.ntmps17
    go_wp2_with fail
    rw [HW1.out]
    refine (G.out).mono ?_
    rintro e w2 hres
    have HRS := Lib.hid (HRES.out _ _ hres).out
    clear q0 q1 q2 q3 q4 q5
    obtain ⟨rfl, _⟩ := (hres).out
    clear hres
    go_wp2
    go_ret
    exact doRes_of (m := (rDo l _).1) (u := (rDo l _).2) rfl rfl HRS.out.2.1 HRS.out.2.2
  by_cases hk2 : kd = 2
  · subst hk2
    have G := Lib.hid (GR.out rfl w1 HBA.out)
    clear GC GR GM GE HO
    obtain ⟨q0, q1, q2, q3, q4, q5⟩ := act_row_at HR.out
    simp only at q0 q1 q2 q3 q4 q5
    rw [← HW1.out] at q0 q1 q2 q3 q4 q5
    go_enter Try.func17, Try.ntmps17
    go_wp2_with fail
    rw [HW1.out]
    refine (G.out).mono ?_
    rintro e w2 hres
    have HRS := Lib.hid (HRES.out _ _ hres).out
    clear q0 q1 q2 q3 q4 q5
    obtain ⟨rfl, _⟩ := (hres).out
    clear hres
    go_wp2
    go_ret
    exact doRes_of (m := (rDo l _).1) (u := (rDo l _).2) rfl rfl HRS.out.2.1 HRS.out.2.2
  by_cases hk3 : kd = 3
  · subst hk3
    have G := Lib.hid (GM.out rfl w1 HBA.out)
    clear GC GR GM GE HO
    obtain ⟨q0, q1, q2, q3, q4, q5⟩ := act_row_at HR.out
    simp only at q0 q1 q2 q3 q4 q5
    rw [← HW1.out] at q0 q1 q2 q3 q4 q5
    go_enter Try.func17, Try.ntmps17
    go_wp2_with fail
    rw [HW1.out]
    refine (G.out).mono ?_
    rintro e w2 hres
    have HRS := Lib.hid (HRES.out _ _ hres).out
    clear q0 q1 q2 q3 q4 q5
    obtain ⟨rfl, _⟩ := (hres).out
    clear hres
    go_wp2
    go_ret
    exact doRes_of (m := (rDo l _).1) (u := (rDo l _).2) rfl rfl HRS.out.2.1 HRS.out.2.2
  by_cases hk4 : kd = 4
  · subst hk4
    have G := Lib.hid (GE.out rfl w1 HBA.out)
    clear GC GR GM GE HO
    obtain ⟨q0, q1, q2, q3, q4, q5⟩ := act_row_at HR.out
    simp only at q0 q1 q2 q3 q4 q5
    rw [← HW1.out] at q0 q1 q2 q3 q4 q5
    go_enter Try.func17, Try.ntmps17
    go_wp2_with fail
    rw [HW1.out]
    refine (G.out).mono ?_
    rintro e w2 hres
    have HRS := Lib.hid (HRES.out _ _ hres).out
    clear q0 q1 q2 q3 q4 q5
    obtain ⟨rfl, _⟩ := (hres).out
    clear hres
    go_wp2
    go_ret
    exact doRes_of (m := (rDo l _).1) (u := (rDo l _).2) rfl rfl HRS.out.2.1 HRS.out.2.2
  have HE := Lib.hid (HO.out hk1 hk2 hk3 hk4)
  have e1 : (kd == 1) = false := beq_eq_false_iff_ne.2 hk1
  have e2 : (kd == 2) = false := beq_eq_false_iff_ne.2 hk2
  have e3 : (kd == 3) = false := beq_eq_false_iff_ne.2 hk3
  have e4 : (kd == 4) = false := beq_eq_false_iff_ne.2 hk4
  clear GC GR GM GE HO hk1 hk2 hk3 hk4
  go_enter Try.func17, Try.ntmps17
  go_wp2
  rw [HW1.out]
  go_ret
  exact doRes_of HE.out rfl (HTW.out _ HBA.out) (Only.of_below HBA.out)

set_option maxRecDepth 100000 in
theorem do_nil (a : ActV) (w : World) :
    Calls Try.prog 17 #[.pointer none, .agg (actCells a).toArray] w fun e w' => e = .returned (.int .i64 (if a.kind < 1 ∨ 4 < a.kind then 1 else 5)) ∧ Below w.heap.size w w' := by
  have hmf : ∀ (fn : Fn) (first cap : Array Value) (w : World), (Instr.makeFunc fn first cap).run Try.prog w = .ok (.func fn first cap) w := fun _ _ _ _ => rfl
  unfold actCells
  obtain ⟨kd, id, pa, nm, dr, oA, oC, ops⟩ := a
  simp only
  have HBA := Lib.hid ((Below.refl w.heap.size w).alloc (Nat.le_refl _) (.cells #[.int .i64 kd, .int .i64 id, .int .i64 pa, .string (bstr nm), .bool dr, .slice oA ops.length oC] 26))
  by_cases hk1 : kd = 1
  · subst hk1
    rw [if_neg (by omega)]
    go_enter Try.func17, Try.ntmps17
    go_wp2
    go_ret
    exact ⟨rfl, HBA.out⟩
  by_cases hk2 : kd = 2
  · subst hk2
    rw [if_neg (by omega)]
    go_enter Try.func17, Try.ntmps17
    go_wp2
    go_ret
    exact ⟨rfl, HBA.out⟩
  by_cases hk3 : kd = 3
  · subst hk3
    rw [if_neg (by omega)]
    go_enter Try.func17, Try.ntmps17
    go_wp2
    go_ret
    exact ⟨rfl, HBA.out⟩
  by_cases hk4 : kd = 4
  · subst hk4
    rw [if_neg (by omega)]
    go_enter Try.func17, Try.ntmps17
    go_wp2
    go_ret
    exact ⟨rfl, HBA.out⟩
  rw [if_pos (by omega)]
  have e1 : (kd == 1) = false := beq_eq_false_iff_ne.2 hk1
  have e2 : (kd == 2) = false := beq_eq_false_iff_ne.2 hk2
  have e3 : (kd == 3) = false := beq_eq_false_iff_ne.2 hk3
  have e4 : (kd == 4) = false := beq_eq_false_iff_ne.2 hk4
  clear hk1 hk2 hk3 hk4
  go_enter Try.func17, Try.ntmps17
  go_wp2
  go_ret
  exact ⟨rfl, HBA.out⟩
end Go.Proofs.Ytmedaimndaaiiaa

/- The landed tree's Do told by functions, for laws; acts that are spelled out. Condition: acts that may be. -/
namespace Go.Proofs.Ytmedaimndaaiiaa
open Go.RowKit Go.Deep
variable {l : List NodeV}

theorem tDo {g : Nat} {m : List NodeV} {u : Int} {a : ActV} (hd : rDo l a = (m, u)) (hm : TreeM l) (ha : ActOk a) (w : World) (h : TreeAt w g l) (hop : CompsAt w a.opsA a.ops) :
    Calls Try.prog 17 #[.pointer (some ⟨g, 0, none⟩), .agg #[.int .i64 a.kind, .int .i64 a.id, .int .i64 a.parent, .string (bstr a.name), .bool a.dir, .slice a.opsA a.ops.length a.opsC]] w fun e w' => e = .returned (.int .i64 u) ∧ TreeAt w' g m ∧ Only g w w' := by
  refine (do_any g l a hm ha w h hop).mono ?_
  rintro e w' hr
  have := hr.out
  rw [hd] at this
  exact this
theorem rAt_end {id : Int} (h : ∀ y ∈ l, y.id < id) : rAt l id = l.length := by
  unfold rAt
  induction l with
  | nil => rfl
  | cons y l ih =>
    rw [List.takeWhile_cons, if_pos (decide_eq_true (h y (by simp))), List.length_cons, ih fun x hx => h x (by simp [hx]), List.length_cons]
/-- What is created behind all others. -/
theorem do_last {a : ActV} (hk : a.kind = 1) (h : IdOk a.id ∧ IsName a.name) (hi : ∀ y ∈ l, y.id < a.id) (hp : rPlace l a.parent a.name 0 = 0) (hn : l.length < 100) : rDo l a = (l ++ [newNode a], 0) := by
  rw [rDo_c5 hk h (rFind_no fun y hy => by have := hi y hy; omega) hp (by omega), rAt_end hi, List.take_length, List.drop_length]
theorem do_full {a : ActV} (hk : a.kind = 1) (h : IdOk a.id ∧ IsName a.name) (hi : ∀ y ∈ l, y.id < a.id) (hp : rPlace l a.parent a.name 0 = 0) (hn : 100 ≤ l.length) : rDo l a = (l, 4) :=
  rDo_c4 hk h (rFind_no fun y hy => by have := hi y hy; omega) hp hn
theorem place_free {n : List Nat} (h : ∀ y ∈ l, ¬ (y.parent = 0 ∧ y.name = n)) : rPlace l 0 n 0 = 0 :=
  rPlace_ok (rUp_root l 0) (.inl (by rw [rChild_none h]; omega))
theorem actOk_plain {k id p : Int} {nm : List Nat} {d : Bool} (h1 : Fit64 k) (h2 : Fit64 id) (h3 : Fit64 p) (h4 : ∀ x ∈ nm, x < 256) (h5 : nm.length ≤ 20) : ActOk ⟨k, id, p, nm, d, none, 0, []⟩ :=
  ⟨⟨h1, h2, h3, ⟨h4, by show nm.length ≤ _; unfold maxLen; omega⟩, by simp, by simp, by unfold maxLen; show 0 ≤ _; omega⟩, by show nm.length ≤ _; omega, fun y hy => (List.not_mem_nil hy).elim, by simp [tlen]⟩
theorem actOk_one {k id p : Int} {d : Bool} {A : Option Addr} {c : CompV} (h1 : Fit64 k) (h2 : Fit64 id) (h3 : Fit64 p) (h4 : c.Good) (h5 : c.text.length ≤ 4000) : ActOk ⟨k, id, p, [], d, A, 1, [c]⟩ :=
  ⟨⟨h1, h2, h3, ⟨by simp, by simp⟩, fun y hy => by rw [List.mem_singleton.1 hy]; exact h4, by simp, by unfold maxLen; show 1 ≤ _; omega⟩, by simp, fun y hy => by rw [List.mem_singleton.1 hy]; exact ⟨h4, by omega⟩, by simp [tlen]; omega⟩
theorem comps_none (w : World) : CompsAt w none [] := .inl rfl
theorem TreeM.nil : TreeM [] := TreeM.of ⟨by simp, fun k hk => by simp at hk⟩
end Go.Proofs.Ytmedaimndaaiiaa

/- The contract of the statements' own awake: it answers true; what was there stays as it was. No condition. -/
namespace Go.Proofs.Ytmedaimndaaiiaa
open Go.RowKit Go.Deep

def aw13 : NodeV := ⟨1, 0, [97], false, []⟩
theorem name_one (c : Nat) (h : 97 ≤ c ∧ c ≤ 122) : IsName [c] := by
  rw [isName_iff]
  refine ⟨by simp, by simp, by simp; omega, by simp, fun x hx => ?_⟩
  rw [List.mem_singleton.1 hx, okByte_iff]
  exact .inl h
theorem aw13_do1 : rDo [] ⟨1, 1, 0, [97], false, none, 0, []⟩ = ([aw13], 0) :=
  do_last rfl ⟨⟨by decide, by decide⟩, name_one 97 (by omega)⟩ (fun y hy => (List.not_mem_nil hy).elim) (place_free fun y hy => (List.not_mem_nil hy).elim) (by simp)
theorem aw13_find : rFind [aw13] 1 = some 0 := rFind_yes (by simp) rfl fun j hj h => by omega
theorem aw13_do2 : rDo [aw13] ⟨1, 2, 1, [98], false, none, 0, []⟩ = ([aw13], 8) := by
  have h1 : rPlace [aw13] 1 [98] 0 = 8 := by
    refine rPlace_up ?_ (by decide)
    rw [rUp_some 0 (k := 0) (by simp) (by decide) aw13_find]
    rfl
  rw [rDo_c3 rfl ⟨⟨by decide, by decide⟩, name_one 98 (by omega)⟩ (rFind_no fun y hy => ?_) (by show rPlace [aw13] 1 [98] 0 ≠ 0; rw [h1]; decide)]
  · show (_, rPlace [aw13] 1 [98] 0) = _
    rw [h1]
  · rw [List.mem_singleton.1 hy]; decide
theorem aw13_do3 : rDo [aw13] ⟨1, 1, 0, [99], false, none, 0, []⟩ = ([aw13], 6) :=
  rDo_c2 rfl ⟨⟨by decide, by decide⟩, name_one 99 (by omega)⟩ aw13_find
theorem aw13_tree : TreeM [aw13] := by
  have := TreeM.nil.does ⟨1, 1, 0, [97], false, none, 0, []⟩
  rw [aw13_do1] at this
  exact this
def aw13b : NodeV := ⟨1, 1, [97], true, []⟩
theorem aw13_no : ¬ SoundN [aw13b] := by
  intro h
  rcases (h.2 0 (by simp)).2.2.2 with h | ⟨q, hq, hf, hd, hw⟩
  · revert h; decide
  · have : rWithin [aw13b] 1 1 = true := by
      rw [rWithin_def]
      exact wthn_top _ 1 _
    rw [show rWithin [aw13b] ([aw13b][0].parent) ([aw13b][0].id) = rWithin [aw13b] 1 1 from rfl, this] at hw
    cases hw
theorem aw13_name : rName [97, 46, 98] = true := by
  refine rName_yes (isName_iff.2 ⟨by simp, by simp, by simp, by simp, fun x hx => ?_⟩)
  rw [okByte_iff]
  simp at hx
  omega
theorem aw13_dots : rName [46, 46] = false := rName_no fun h => (isName_iff.1 h).2.2.2.1 rfl
theorem aw13_slim (y : NodeV) (h : y.name = [97]) (ht : y.text = []) : Slim [y] := fun x hx => by
  rw [List.mem_singleton.1 hx, h, ht]
  exact ⟨by simp, by simp⟩
theorem nodes_lit (w : World) (y : NodeV) : NodesAt (w.alloc (.cells #[.int .i64 y.id, .int .i64 y.parent, .string (bstr y.name), .bool y.dir, .string (bstr y.text)] 57)) (some ⟨w.heap.size, 0, none⟩) [y] :=
  CellsAt.lit (fun j v hj => by
    match j, hj with
    | 0, hj => cases hj; rfl
    | 1, hj => cases hj; rfl
    | 2, hj => cases hj; rfl
    | 3, hj => cases hj; rfl
    | 4, hj => cases hj; rfl) rfl
end Go.Proofs.Ytmedaimndaaiiaa
