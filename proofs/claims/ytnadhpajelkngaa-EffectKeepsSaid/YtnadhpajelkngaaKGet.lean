/- The landed effect's Same, of what is the same. Condition: no slice and no text is longer than memory. (Merged of 2 texts.) -/
import Derived.Test.YtnadhpajelkngaaKOwn
import Derived.Test.YtnadhpajelkngaaKXp
import Derived.Test.YtnadhpajelkngaaKOne
import Derived.Test.YtnadhpajelkngaaKOp
import Derived.Test.YtnadhpajelkngaaKRow
/- The landed effect's Get: the first one of an ID. Condition: what may be looked at. -/
namespace Go.Proofs.Ytnadhpajelkngaa
open Go.RowKit Go.Deep

def getK (ks : List OneK) (id : Int) : Option OneK := ks.find? fun k => decide (k.id = id)
/-- What Get answers. -/
def GetRes (w' : World) (r : Option OneK) (e : Ending) : Prop :=
  ∃ (y : OneV) (b : Bool), e = .returned (.tuple #[.agg (oneCells y).toArray, .bool b]) ∧ CompsAt w' y.opsA y.k.ops ∧ y.Good ∧ ((∃ k, r = some k ∧ y.k = k ∧ b = true) ∨ (r = none ∧ y.k = oneZ 0 ∧ b = false))
theorem getK_take {l : List OneV} {id : Int} {k : Nat} (h : k < l.length) (hb : ∀ y ∈ l.take k, y.k.id ≠ id) (hy : l[k].k.id = id) : getK (l.map (·.k)) id = some l[k].k := by
  unfold getK
  have e : l = l.take k ++ l[k] :: l.drop (k + 1) := by rw [List.getElem_cons_drop, List.take_append_drop]
  generalize l[k] = y at e hy ⊢
  rw [e, List.map_append, List.find?_append]
  have h1 : ((l.take k).map (·.k)).find? (fun q => decide (q.id = id)) = none := List.find?_eq_none.2 fun q hq => by
    obtain ⟨y, hy1, rfl⟩ := List.mem_map.1 hq
    simpa using hb y hy1
  rw [h1, List.map_cons, List.find?_cons, decide_eq_true hy]
  rfl
theorem getK_never {l : List OneV} {id : Int} (hb : ∀ y ∈ l, y.k.id ≠ id) : getK (l.map (·.k)) id = none := by
  unfold getK
  refine List.find?_eq_none.2 fun q hq => ?_
  obtain ⟨y, hy1, rfl⟩ := List.mem_map.1 hq
  simpa using hb y hy1
theorem one_zero : (⟨oneZ 0, none, 0⟩ : OneV).Good := ⟨(by show Fit64 0; unfold Fit64; decide), (by show Fit64 0; unfold Fit64; decide), ⟨fun x hx => (by cases hx), Nat.zero_le _⟩, fun y hy => (by cases hy), Nat.le_refl _, Nat.zero_le _⟩

set_option maxHeartbeats 4000000 in
set_option maxRecDepth 100000 in
theorem effGet_any (A : Option Addr) (c : Nat) (l : List OneV) (id : Int) (hl : l.length ≤ 1048576) (hg : ∀ y ∈ l, y.Good ∧ KeyH y.k) (w : World) (hA : OnesAt w A l) :
    Calls Try.prog 14 #[.slice A l.length c, .int .i64 id] w fun e w' => GetRes w' (getK (l.map (·.k)) id) e ∧ Below w.heap.size w w' := by
  have HA := Lib.hid hA
  have HG := Lib.hid hg
  clear hA hg
  obtain ⟨K, HK⟩ : ∃ x, Hid (getK (l.map (·.k)) id = x) := ⟨_, Lib.hid rfl⟩
  rw [HK.out]
  have hz := eight_new w 37 (.int .i64 0) (.slice none 0 0) (.bool false) (.bool false) (.bool false) (.bool false) (.int .i64 0) (.string { data := #[] })
  have hb0 : Below w.heap.size w (w.alloc (.cells #[.int .i64 0, .slice none 0 0, .bool false, .bool false, .bool false, .bool false, .int .i64 0, .string { data := #[] }] 37)) := (Below.refl _ _).alloc (Nat.le_refl _) _
  obtain ⟨g, hgg⟩ : ∃ g, g = w.heap.size := ⟨_, rfl⟩
  obtain ⟨W1, HW1⟩ : ∃ x, Hid (w.alloc (.cells #[.int .i64 0, .slice none 0 0, .bool false, .bool false, .bool false, .bool false, .int .i64 0, .string { data := #[] }] 37) = x) := ⟨_, Lib.hid rfl⟩
  rw [HW1.out] at hz hb0
  rw [← hgg] at hz hb0
  have HZ := Lib.hid hz
  have HB0 := Lib.hid hb0
  have HGG := Lib.hid hgg
  clear hz hb0 hgg
  go_enter Try.func14, Try.ntmps14
  go_wp2
  rw [← HGG.out, HW1.out]
  go_loopw [10] (fun i wr => ∃ k : Nat, k ≤ l.length ∧ i = .int .i64 k ∧ Hid (Below W1.heap.size W1 wr) ∧ Hid (∀ y ∈ l.take k, y.k.id ≠ id)) (fun i _ => l.length - (intOf i).toNat)
  case atStart => exact ⟨0, Nat.zero_le _, rfl, Lib.hid (Below.refl _ _), Lib.hid (fun y hy => by simp at hy)⟩
  case round =>
    obtain ⟨k, hk, rfl, HBE, HNO⟩ := hrel
    have HBW : Hid (Below g w wr) := Lib.hid (HB0.out.trans (HBE.out.mono (by rw [HGG.out]; exact HB0.out.size)))
    have HZ1 := Lib.hid (HZ.out.of_block (HBE.out.block _ HZ.out.lt))
    by_cases hlt : k < l.length
    · have hltI : (k : Int) < (l.length : Int) := by omega
      have hAw := HA.out.below (by rw [← HGG.out]; exact HBW.out)
      obtain ⟨b1, o1, rfl, _⟩ := hAw.form (by omega)
      obtain ⟨x0, x1, x2, x3, x4, x5, x6, x7⟩ := hAw.at_ hlt
      have hgk := HG.out _ (List.getElem_mem hlt)
      have HCK := Lib.hid (hAw.2 _ (List.getElem_mem hlt))
      have HYES : Hid (l[k].k.id = id → K = some l[k].k) := Lib.hid (fun h => by rw [← HK.out]; exact getK_take hlt HNO.out h)
      have HNX : Hid (l[k].k.id ≠ id → ∀ y ∈ l.take (k + 1), y.k.id ≠ id) := Lib.hid (fun h y hy => by
        rw [List.take_succ_eq_append_getElem hlt] at hy
        rcases List.mem_append.1 hy with hy | hy
        · exact HNO.out y hy
        · rw [List.mem_singleton.1 hy]; exact h)
      have HGK := Lib.hid hgk
      clear hgk hAw
      generalize l[k] = y at x0 x1 x2 x3 x4 x5 x6 x7 HCK HYES HNX HGK
      have HZ2 := Lib.hid (HZ1.out.alloc (Obj.cells (oneCells y).toArray 37))
      have HBA : Hid (Below wr.heap.size wr (wr.alloc (.cells (oneCells y).toArray 37))) := Lib.hid ((Below.refl _ _).alloc (Nat.le_refl _) _)
      unfold oneCells at HZ2 HBA
      by_cases hid : y.k.id = id
      · have e1 : (y.k.id == id) = true := beq_iff_eq.2 hid
        have HID := Lib.hid (HYES.out hid)
        have GO := Lib.hid (fun (w' : World) (h : Below wr.heap.size wr w') => effOwn_any y HGK.out.1 HGK.out.2 w' (HCK.out.below h))
        unfold oneCells at GO
        clear hid HYES HNX
        go_wp2_with fail
        refine (GO.out _ HBA.out).mono ?_
        rintro e w3 ⟨⟨A2, c2, rfl, h1, h2, hown⟩, hb3⟩
        have hz3 := HZ2.out.of_block (hb3.block _ HZ2.out.lt)
        obtain ⟨⟨a0, f0⟩, ⟨a1, f1⟩, ⟨a2, f2⟩, ⟨a3, f3⟩, ⟨a4, f4⟩, ⟨a5, f5⟩, ⟨a6, f6⟩, ⟨a7, f7⟩, hres⟩ := eight_set hz3 (.int .i64 y.k.id) (.slice A2 y.k.ops.length c2) (.bool y.k.edited) (.bool y.k.removed) (.bool y.k.created) (.bool y.k.moved) (.int .i64 y.k.parent) (.string (bstr y.k.name))
        have HRES := Lib.hid (eight_row hres)
        have hgw : g ≤ wr.heap.size := by rw [HGG.out]; exact HBW.out.size
        have hbb := (HBW.out.trans (HBA.out.mono hgw)).trans (hb3.mono (Nat.le_trans hgw HBA.out.size))
        have HBF : Hid (Below g w _) := Lib.hid (eight_below hbb (Nat.le_refl g) (.int .i64 y.k.id) (.slice A2 y.k.ops.length c2) (.bool y.k.edited) (.bool y.k.removed) (.bool y.k.created) (.bool y.k.moved) (.int .i64 y.k.parent) (.string (bstr y.k.name)))
        have hgl : g < wr.heap.size := HZ1.out.lt
        have hgl2 : g < (wr.alloc (.cells #[.int .i64 y.k.id, .slice y.opsA y.k.ops.length y.opsC, .bool y.k.edited, .bool y.k.removed, .bool y.k.created, .bool y.k.moved, .int .i64 y.k.parent, .string (bstr y.k.name)] 37)).heap.size := Nat.lt_of_lt_of_le hgl HBA.out.size
        have HCO : Hid (CompsAt _ A2 y.k.ops) := Lib.hid (CellsAt.of_own (ownsRow_setCell_below (a := ⟨g, 7, none⟩) (ownsRow_setCell_below (a := ⟨g, 6, none⟩) (ownsRow_setCell_below (a := ⟨g, 5, none⟩) (ownsRow_setCell_below (a := ⟨g, 4, none⟩) (ownsRow_setCell_below (a := ⟨g, 3, none⟩) (ownsRow_setCell_below (a := ⟨g, 2, none⟩) (ownsRow_setCell_below (a := ⟨g, 1, none⟩) (ownsRow_setCell_below (a := ⟨g, 0, none⟩) hown hgl2 (.int .i64 y.k.id)) hgl2 (.slice A2 y.k.ops.length c2)) hgl2 (.bool y.k.edited)) hgl2 (.bool y.k.removed)) hgl2 (.bool y.k.created)) hgl2 (.bool y.k.moved)) hgl2 (.int .i64 y.k.parent)) hgl2 (.string (bstr y.k.name))))
        have HRM : Hid (y.k.ops.length ≤ c2 ∧ c2 ≤ maxLen) := Lib.hid ⟨h1, h2⟩
        clear hz3 hres hb3 h1 h2 hown hbb hgl hgl2 hgw
        go_wp2
        refine bodyPost_ret (results_two_row rfl _ _ g 37 #[.int .i64 y.k.id, .slice A2 y.k.ops.length c2, .bool y.k.edited, .bool y.k.removed, .bool y.k.created, .bool y.k.moved, .int .i64 y.k.parent, .string (bstr y.k.name)] (0, 0) _ rfl HRES.out Try.underlying37 rfl (by kernel_rfl)) rfl ?_
        obtain ⟨q1, q2, q3, q4, q5, q6⟩ := HGK.out.1
        exact ⟨⟨⟨y.k, A2, c2⟩, true, rfl, HCO.out, ⟨q1, q2, q3, q4, HRM.out.1, HRM.out.2⟩, .inl ⟨_, HID.out, rfl, rfl⟩⟩, by rw [← HGG.out]; exact HBF.out⟩
      · have e1 : (y.k.id == id) = false := beq_eq_false_iff_ne.2 hid
        have HN1 := Lib.hid (HNX.out hid)
        have HBN : Hid (Below W1.heap.size W1 _) := Lib.hid (HBE.out.trans (HBA.out.mono HBE.out.size))
        clear hid HYES HNX
        go_wp2
        go_roundw
        case rel => exact ⟨k + 1, by omega, by go_num, HBN, HN1⟩
        case measure => simp [intOf]; omega
    · obtain rfl : k = l.length := by omega
      have hltI : ¬ (l.length : Int) < (l.length : Int) := by omega
      have HF : Hid (K = none) := Lib.hid (by
        rw [← HK.out]
        refine getK_never fun y hy => HNO.out y ?_
        rw [List.take_length]; exact hy)
      obtain ⟨⟨a0, f0⟩, ⟨a1, f1⟩, ⟨a2, f2⟩, ⟨a3, f3⟩, ⟨a4, f4⟩, ⟨a5, f5⟩, ⟨a6, f6⟩, ⟨a7, f7⟩, hres⟩ := eight_set HZ1.out (.int .i64 0) (.slice none 0 0) (.bool false) (.bool false) (.bool false) (.bool false) (.int .i64 0) (.string { data := #[] })
      have HRES := Lib.hid (eight_row hres)
      have HBF : Hid (Below g w _) := Lib.hid (eight_below HBW.out (Nat.le_refl g) (.int .i64 0) (.slice none 0 0) (.bool false) (.bool false) (.bool false) (.bool false) (.int .i64 0) (.string { data := #[] }))
      clear hres
      go_wp2
      refine bodyPost_ret (results_two_row rfl _ _ g 37 #[.int .i64 0, .slice none 0 0, .bool false, .bool false, .bool false, .bool false, .int .i64 0, .string { data := #[] }] (0, 0) _ rfl HRES.out Try.underlying37 rfl (by kernel_rfl)) rfl ?_
      exact ⟨⟨⟨oneZ 0, none, 0⟩, false, rfl, .inl rfl, one_zero, .inr ⟨HF.out, rfl, rfl⟩⟩, by rw [← HGG.out]; exact HBF.out⟩
end Go.Proofs.Ytnadhpajelkngaa

/- The landed effect's Same, of what is the same. Condition: no slice and no text is longer than memory. -/
namespace Go.Proofs.Ytnadhpajelkngaa
open Go.RowKit Go.Deep

set_option maxHeartbeats 4000000 in
set_option maxRecDepth 100000 in
theorem alikeE_eq (x y : OneV) (hx : x.Good) (hy : y.Good) (he : x.k = y.k) (w : World) (hA : CompsAt w x.opsA x.k.ops) (hB : CompsAt w y.opsA y.k.ops) :
    Calls Try.prog 38 #[.agg (oneCells x).toArray, .agg (oneCells y).toArray] w fun e w' => e = .returned (.bool true) ∧ Below w.heap.size w w' := by
  obtain ⟨k, A, c⟩ := x
  obtain ⟨k2, A2, c2⟩ := y
  simp only at he
  subst he
  have GS := Lib.hid (fun w' (h : Below w.heap.size w w') => opSame_any A A2 c c2 k.ops k.ops (by have h5 := hx.2.2.2.2.1; have h6 := hx.2.2.2.2.2; unfold maxLen at *; simp only at h5 h6; omega) (by have h5 := hx.2.2.2.2.1; have h6 := hx.2.2.2.2.2; unfold maxLen at *; simp only at h5 h6; omega) hx.2.2.2.1 hy.2.2.2.1 w' (hA.below h) (hB.below h))
  rw [sameB_yes rfl] at GS
  have hb2 := ((Below.refl w.heap.size w).alloc (Nat.le_refl _) (.cells (oneCells ⟨k, A, c⟩).toArray 37)).alloc (by simp) (.cells (oneCells ⟨k, A2, c2⟩).toArray 37)
  clear hx hy hA hB
  obtain ⟨xi, xo, x2, x3, x4, x5, xp, xn⟩ := k
  unfold oneCells at hb2 ⊢
  simp only at hb2 GS
  have HR1 := Lib.hid ((eight_new w 37 (.int .i64 xi) (.slice A xo.length c) (.bool x2) (.bool x3) (.bool x4) (.bool x5) (.int .i64 xp) (.string (bstr xn))).alloc (Obj.cells #[.int .i64 xi, .slice A2 xo.length c2, .bool x2, .bool x3, .bool x4, .bool x5, .int .i64 xp, .string (bstr xn)] 37))
  have HR2 := Lib.hid (eight_new (w.alloc (.cells #[.int .i64 xi, .slice A xo.length c, .bool x2, .bool x3, .bool x4, .bool x5, .int .i64 xp, .string (bstr xn)] 37)) 37 (.int .i64 xi) (.slice A2 xo.length c2) (.bool x2) (.bool x3) (.bool x4) (.bool x5) (.int .i64 xp) (.string (bstr xn)))
  rw [World.size_alloc] at HR2
  go_enter Try.func38, Try.ntmps38
  go_wp2_with fail
  refine (GS.out _ hb2).mono ?_
  rintro e w2 ⟨rfl, hb3⟩
  obtain ⟨z0, z1, z2, z3, z4, z5, z6, z7⟩ := eight_cells (HR1.out.of_block (hb3.block _ HR1.out.lt))
  obtain ⟨y0, y1, y2, y3, y4, y5, y6, y7⟩ := eight_cells (HR2.out.of_block (hb3.block _ HR2.out.lt))
  go_wp2
  go_ret
  exact ⟨rfl, hb2.trans (hb3.mono hb2.size)⟩

set_option maxHeartbeats 4000000 in
set_option maxRecDepth 100000 in
theorem onesEqual_eq (A B : Option Addr) (ca cb : Nat) (l m : List OneV) (hl : l.length ≤ maxLen) (hgl : ∀ y ∈ l, y.Good) (hgm : ∀ y ∈ m, y.Good) (he : l.map (·.k) = m.map (·.k)) (w : World) (hA : OnesAt w A l) (hB : OnesAt w B m) :
    Calls Try.prog 37 #[.slice A l.length ca, .slice B m.length cb, .func (.func 38) #[] #[]] w fun e w' => e = .returned (.bool true) ∧ Below w.heap.size w w' := by
  unfold maxLen at hl
  have HA := Lib.hid hA; clear hA
  have HB := Lib.hid hB; clear hB
  have HLEN : Hid (l.length = m.length) := Lib.hid (by have := congrArg List.length he; simpa using this)
  rw [← HLEN.out]
  have HKE : Hid (∀ (k : Nat) (h1 : k < l.length) (h2 : k < m.length), l[k].k = m[k].k) := Lib.hid (fun k h1 h2 => by
    have e2 := congrArg (fun q => q[k]?) he
    simpa [List.getElem?_map, List.getElem?_eq_getElem h1, List.getElem?_eq_getElem h2] using e2)
  have HGL := Lib.hid hgl
  have HGM := Lib.hid hgm
  clear he hgl hgm
  go_enter Try.func37, Try.ntmps37
  go_wp2
  go_loopw [7, 8, 9, 17] (fun s7 s8 s9 i wr => ∃ k : Nat, k ≤ l.length ∧ s7 = s7 ∧ s8 = s8 ∧ s9 = s9 ∧ i = .int .i64 k ∧ Hid (Below w.heap.size w wr)) (fun _ _ _ i _ => l.length - (intOf i).toNat)
  case atStart => exact ⟨0, Nat.zero_le _, rfl, rfl, rfl, rfl, Lib.hid (Below.refl _ _)⟩
  case round =>
    obtain ⟨k, hk, _, _, _, rfl, HBEL⟩ := hrel
    by_cases hlt : k < l.length
    · have hlt2 : k < m.length := by have := HLEN.out; omega
      have hltI : (k : Int) < (l.length : Int) := by omega
      obtain ⟨b1, o1, rfl, _⟩ := HA.out.form (by omega)
      obtain ⟨b2, o2, rfl, _⟩ := HB.out.form (by omega)
      obtain ⟨x0, x1, x2, x3, x4, x5, x6, x7⟩ := (HA.out.below HBEL.out).at_ hlt
      have GS := Lib.hid (fun (w' : World) (h : Below w.heap.size w w') => alikeE_eq l[k] m[k] (HGL.out _ (List.getElem_mem hlt)) (HGM.out _ (List.getElem_mem hlt2)) (HKE.out k hlt hlt2) w' ((HA.out.below h).2 _ (List.getElem_mem hlt)) ((HB.out.below h).2 _ (List.getElem_mem hlt2)))
      have HY := Lib.hid (fun (W : World) (h : Below w.heap.size w W) => (HB.out.below h).at_ hlt2)
      generalize l[k] = c at x0 x1 x2 x3 x4 x5 x6 x7 GS
      generalize m[k] = d at HY GS
      unfold oneCells at GS
      have HB1 : Hid (Below w.heap.size w (wr.alloc (.cells (oneCells c).toArray 37))) := Lib.hid (HBEL.out.alloc HBEL.out.size _)
      obtain ⟨y0, y1, y2, y3, y4, y5, y6, y7⟩ := HY.out _ HB1.out
      have HB2 : Hid (Below w.heap.size w ((wr.alloc (.cells (oneCells c).toArray 37)).alloc (.cells (oneCells d).toArray 37))) := Lib.hid (HB1.out.alloc HB1.out.size _)
      unfold oneCells at y0 y1 y2 y3 y4 y5 y6 y7 HB1 HB2
      have ec : ∀ args w, (callFunc 38 args).run Try.prog w = .ok (.enter 38 args) w := enters_of Try.func38 (by kernel_rfl) rfl
      clear HY
      go_wp2_with fail
      refine (GS.out _ HB2.out).mono ?_
      rintro e x1 ⟨rfl, hb⟩
      have HB3 := Lib.hid (HB2.out.trans (hb.mono HB2.out.size))
      clear hb
      go_wp2
      go_roundw
      case rel => exact ⟨k + 1, by omega, trivial, trivial, trivial, by go_num, HB3⟩
      case measure => simp [intOf]; omega
    · obtain rfl : k = l.length := by omega
      have hltI : ¬ (l.length : Int) < (l.length : Int) := by omega
      go_wp2
      go_ret
      exact ⟨rfl, HBEL.out⟩
set_option maxRecDepth 100000 in
theorem effSame_eq (A B : Option Addr) (ca cb : Nat) (l m : List OneV) (hl : l.length ≤ maxLen) (hgl : ∀ y ∈ l, y.Good) (hgm : ∀ y ∈ m, y.Good) (he : l.map (·.k) = m.map (·.k)) (w : World) (hA : OnesAt w A l) (hB : OnesAt w B m) :
    Calls Try.prog 15 #[.slice A l.length ca, .slice B m.length cb] w fun e w' => e = .returned (.bool true) ∧ Below w.heap.size w w' := by
  have G := Lib.hid (onesEqual_eq A B ca cb l m hl hgl hgm he w hA hB)
  clear he hA hB
  go_enter Try.func15, Try.ntmps15
  go_wp2_with fail
  refine (G.out).mono ?_
  rintro e w2 ⟨rfl, hb⟩
  have HB := Lib.hid hb
  clear hb
  go_wp2
  go_ret
  exact ⟨rfl, HB.out⟩
end Go.Proofs.Ytnadhpajelkngaa
