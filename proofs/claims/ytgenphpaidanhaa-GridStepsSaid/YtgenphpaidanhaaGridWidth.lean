/- grid's Width and Lines: how long a line is, how many there are. Condition: a text of no more than 2^40 bytes. -/
import Derived.Test.YtgenphpaidanhaaGridAt
import Derived.Lib.Bytealg
namespace Go.Proofs.Ytgenphpaidanhaa
open Go.RowKit Go.Deep Go.Shelf Ieee
attribute [-go_sem] binOp_float_cmp_eql binOp_float_cmp_neq binOp_float_cmp_lss binOp_float_cmp_leq binOp_float_cmp_gtr binOp_float_cmp_geq run_eql_complex run_neq_complex
attribute [local go_sem] Oper.semAt_some

/-- What Width has kept of the places that have come. -/
def wlOf (vs : List Nat) (k : Int) (l : List Nat) : Int := l.foldl (fun m q => if (lin vs q : Int) = k then (col vs q : Int) else m) (-1)
theorem wlOf_snoc (vs : List Nat) (k : Int) (l : List Nat) (q : Nat) : wlOf vs k (l ++ [q]) = if (lin vs q : Int) = k then (col vs q : Int) else wlOf vs k l := by
  unfold wlOf
  rw [List.foldl_append]
  rfl
theorem wlOf_range (vs : List Nat) (k : Int) (p : Nat) : wlOf vs k (List.range p) = wl vs k p := by
  induction p with
  | zero => rw [wl_zero]; rfl
  | succ p ih =>
    rw [List.range_succ, wlOf_snoc, ih]
    by_cases h : (lin vs p : Int) = k
    · rw [wl_yes h, if_pos h]
    · rw [wl_no h, if_neg h]
attribute [irreducible] wlOf
/-- What Width answers: how long the line is, and whether there is one. -/
def wOut (vs : List Nat) (line : Int) : Int := if 0 ≤ line ∧ line ≤ lst vs then (wdt vs line.toNat : Int) else 0
def wErr (vs : List Nat) (line : Int) : Int := if 0 ≤ line ∧ line ≤ lst vs then 0 else 1
theorem wOut_yes {vs : List Nat} {k : Nat} (h : k ≤ lst vs) : wOut vs (k : Int) = (wdt vs k : Int) := by
  unfold wOut
  rw [if_pos (by omega), Int.toNat_natCast]
theorem wErr_yes {vs : List Nat} {k : Nat} (h : k ≤ lst vs) : wErr vs (k : Int) = 0 := if_pos (by omega)
theorem wOut_no {vs : List Nat} {k : Int} (h : ¬ (0 ≤ k ∧ k ≤ lst vs)) : wOut vs k = 0 := if_neg h
theorem wErr_no {vs : List Nat} {k : Int} (h : ¬ (0 ≤ k ∧ k ≤ lst vs)) : wErr vs k = 1 := if_neg h
attribute [irreducible] wOut wErr
structure WdI (b : Nat) (v0 v1 : Value) (W : World) : Prop where
  c0 : W.cell? ⟨b, 0, none⟩ = some v0
  c1 : W.cell? ⟨b + 1, 0, none⟩ = some v1
  f1 : W.frozen? ⟨b + 1, 0, none⟩ = false
theorem WdI.kept {b : Nat} {v0 v1 : Value} {W W' : World} {row : Option Nat} (h : WdI b v0 v1 W) (hg : W.grownBy W' row) (hr : ∀ r, row = some r → ∃ o : Obj, W.heap[r]? = some o ∧ o.isCells = false) : WdI b v0 v1 W' :=
  ⟨cell_kept h.c0 hg hr, cell_kept h.c1 hg hr, (frozen_kept h.c1 hg hr).trans h.f1⟩
theorem WdI.alloc {b : Nat} {v0 v1 : Value} {W : World} (h : WdI b v0 v1 W) (o : Obj) : WdI b v0 v1 (W.alloc o) := h.kept (World.grownBy_alloc W o none) (fun r e => by cases e)
theorem WdI.new (w : World) (v0 v1 : Value) (t0 t1 : TypeId) : WdI w.heap.size v0 v1 ((w.alloc (.cells #[v0] t0)).alloc (.cells #[v1] t1)) := by
  have h0 := cell_of_box w v0 t0
  have h1 := cell_of_box (w.alloc (.cells #[v0] t0)) v1 t1
  simp only [World.size_alloc] at h1
  exact ⟨cell_alloc_l _ h0.1, h1.1, h1.2⟩
theorem WdI.set {b : Nat} {v0 v1 u1 : Value} {W : World} (h : WdI b v0 v1 W) : WdI b v0 u1 (W.setCell ⟨b + 1, 0, none⟩ u1) :=
  ⟨(World.cell?_setCell_other _ _ ⟨b, 0, none⟩ _ (by simp)).trans h.c0, World.cell?_setCell_same' W ⟨b + 1, 0, none⟩ u1 (by rw [h.c1]; rfl), by rw [World.frozen?_setCell]; exact h.f1⟩

set_option maxHeartbeats 4000000 in
set_option maxRecDepth 100000 in
theorem width_in {l vs : List Nat} (hv : V l vs) (hl : l.length ≤ 1099511627776) (line : Int) (w : World) :
    Calls Try.prog 10 #[.string (bstr l), .int .i64 line] w fun e W' => e = .returned (.tuple #[.int .i64 (wOut vs line), .int .i64 (wErr vs line)]) ∧ Below w.heap.size w W' := by
  have GV := Lib.hid (fun w => utfValid_yes hv hl w)
  have hvl := hv.length_le
  refine (callsIn_wide (n := 3)).1 ?_
  refine callsIn_of_wp_marks Try.func10 rfl trivial ?_ rfl
  simp only [Try.ntmps10, List.size_toArray, List.length_cons, List.length_nil, Nat.reduceAdd, Nat.reduceSub, Array.replicate_succ, Array.replicate_zero, List.push_toArray, List.append_toArray, List.nil_append, List.cons_append]
  gi_wp2_with (refine ⟨trivial, (callsIn_wide.2 (GV.out _)).mono ?_⟩; rintro e w1 ⟨rfl, rfl⟩)
  have hI0 := WdI.new w (.int .i64 line) (.int .i64 (-1)) 3 3
  have hB0 : Below w.heap.size w ((w.alloc (.cells #[.int .i64 line] 3)).alloc (.cells #[.int .i64 (-1)] 3)) := ((Below.refl _ w).alloc (Nat.le_refl _) _).alloc (by simp) _
  have hS0 : w.heap.size ≤ ((w.alloc (.cells #[.int .i64 line] 3)).alloc (.cells #[.int .i64 (-1)] 3)).heap.size := hB0.size
  generalize (w.alloc (.cells #[.int .i64 line] 3)).alloc (.cells #[.int .i64 (-1)] 3) = W0 at hI0 hB0 hS0 ⊢
  refine ⟨trivial, (points_any _ _ _).mono ?_⟩
  rintro e w1 ⟨rfl, rfl⟩
  have hb := cell_of_box W0 (.string (bstr l)) 9
  gi_wp2
  refine wpIn_rangeFunc_ownF rfl (by omega) (gf := 32) (lb := #[.pointer (some ⟨W0.heap.size, 0, none⟩)]) rfl trivial (enters_of Try.func32 (by kernel_rfl) rfl)
    (points_stops hv hl 2 (by omega) W0.heap.size _ (by simp) hb.1) walksK_t walksK_b (Below.refl _ _) (fun _ => rfl)
    (fun (pre : List (Pt vs)) W => WdI w.heap.size (.int .i64 line) (.int .i64 (wlOf vs line (pre.map fun p => p.1.1))) W ∧ Below w.heap.size w W)
    (fun _ _ _ => False)
    (OwnFrom.and (Own.from (fun s A B row hs hg hr => hs.kept hg hr) _) (ownFrom_below (Nat.le_refl _) (by simp; omega)))
    (fun _ _ _ _ _ hs _ _ => hs)
    ⟨by rw [List.map_nil, show wlOf vs line [] = -1 by unfold wlOf; rfl]; exact hI0.alloc _, hB0.alloc hS0 _⟩
    (fun p => { tmps := #[.string (bstr l), .int .i64 line, undef, .pointer (some ⟨w.heap.size, 0, none⟩), .int .i64 0, .int .i64 0, .pointer (some ⟨w.heap.size + 1, 0, none⟩), undef, .complex .f64 p.1.2.1 p.1.2.2, .string (bstr l), .bool true, .bool false, .string (bstr l),
      .func (.func 32) #[] #[.pointer (some ⟨W0.heap.size, 0, none⟩)], .int .i64 (p.1.1 : Int), .complex .f64 p.1.2.1 p.1.2.2, undef, undef, undef, undef, undef, undef, undef, undef, undef, undef, undef], defers := [] }) ?assign ?body ?done ?stop
  case assign =>
    rintro k ⟨⟨q, a, b⟩, hq⟩ W K hK
    dsimp only [ptVals]
    gi_wp2
    exact hK
  case body =>
    rintro k pre ⟨⟨q, a, b⟩, hq, hp⟩ W ⟨hi, hB⟩ _
    have c0 := hi.c0
    have c1 := hi.c1
    have f1 := hi.f1
    have hql : q ≤ vs.length := hq
    have g1 := lin_le vs q
    have g2 := col_le vs q
    have h1 := rToInt (show FV a (16 * (col vs q : Int)) from hp.1) (by omega)
    have h2 := rToInt (show FV b (16 * (lin vs q : Int)) from hp.2) (by omega)
    have HM : Hid ((pre ++ [(⟨(q, a, b), hq, hp⟩ : Pt vs)]).map (fun p => p.1.1) = pre.map (fun p => p.1.1) ++ [q]) := by
      show _ = _
      rw [List.map_append]
      rfl
    clear g1 g2
    by_cases hx : (lin vs q : Int) = line
    · have HW : Hid (wlOf vs line ((pre ++ [(⟨(q, a, b), hq, hp⟩ : Pt vs)]).map (fun p => p.1.1)) = (col vs q : Int)) := by
        show _ = _
        rw [HM.out, wlOf_snoc, if_pos hx]
      gi_wp2
      exact ⟨KeepsOthers.setCell _ _ _, KeepsWalks.setCell _ _ _, by rw [HW.out]; exact hi.set, hB.setCell (p := ⟨w.heap.size + 1, 0, none⟩) (by simp) _⟩
    · have HW : Hid (wlOf vs line ((pre ++ [(⟨(q, a, b), hq, hp⟩ : Pt vs)]).map (fun p => p.1.1)) = wlOf vs line (pre.map fun p => p.1.1)) := by
        show _ = _
        rw [HM.out, wlOf_snoc, if_neg hx]
      have hxb : ((lin vs q : Int) == line) = false := beq_eq_false_iff_ne.2 hx
      gi_wp2
      exact ⟨KeepsOthers.refl _, KeepsWalks.refl _, by rw [HW.out]; exact hi, hB⟩
  case done =>
    rintro D ys W hD hys ⟨hi, hB⟩ hK
    rw [hys, wlOf_range] at hi
    have HD := hB.trans (belowK_b (w := w) (Nat.le_refl _) W D _ (.deferred none) (by simp at hD; omega) hK rfl rfl)
    clear hys
    by_cases hlo : 0 ≤ line ∧ line ≤ lst vs
    · obtain ⟨ln, rfl⟩ : ∃ n : Nat, line = (n : Int) := ⟨line.toNat, by omega⟩
      have hln : ln ≤ lst vs := by omega
      rw [wl_all vs hln] at hi
      have c1 := hi.c1
      gi_wp2
      refine ⟨by simp, .inl ⟨_, _, rfl, run_takeDeferred hK, ?_⟩⟩
      exact ⟨_, results_tmp2 rfl _ _ _, by rw [wOut_yes hln, wErr_yes hln]; rfl, HD⟩
    · rw [wl_none vs (by omega) _ (Nat.le_refl _)] at hi
      have c1 := hi.c1
      gi_wp2
      refine ⟨by simp, .inl ⟨_, _, rfl, run_takeDeferred hK, ?_⟩⟩
      exact ⟨_, results_tmp2 rfl _ _ _, by rw [wOut_no hlo, wErr_no hlo]; rfl, HD⟩
  case stop =>
    rintro D c pre W _ _ h _
    exact h.elim
set_option maxRecDepth 100000 in
theorem width_bad {l : List Nat} (hv : ¬ ∃ vs, V l vs) (hb : ∀ x ∈ l, x < 256) (hl : l.length ≤ 1099511627776) (line : Int) (w : World) :
    Calls Try.prog 10 #[.string (bstr l), .int .i64 line] w fun e W' => e = .returned (.tuple #[.int .i64 0, .int .i64 2]) ∧ Below w.heap.size w W' := by
  have GV := Lib.hid (fun w => utfValid_no hv hb hl w)
  go_enter Try.func10, Try.ntmps10
  go_wp2_with fail
  refine (GV.out _).mono ?_
  rintro e w1 ⟨rfl, rfl⟩
  go_wp2
  go_ret2
  exact ⟨rfl, (Below.refl _ _).alloc (Nat.le_refl _) _⟩
theorem countByte_is (l : List Nat) (hb : ∀ x ∈ l, x < 256) : Lib.countByte (bstr l).data.toList 10 = l.count 10 := by
  unfold Lib.countByte
  rw [bstr_data]
  induction l with
  | nil => rfl
  | cons x l ih =>
    have hx := hb x (by simp)
    rw [List.map_cons, List.count_cons, List.count_cons, ih (fun y hy => hb y (by simp [hy]))]
    congr 1
    by_cases h : x = 10
    · subst h; rfl
    · rw [if_neg (fun hh => by
        have h2 := congrArg UInt8.toNat (eq_of_beq hh)
        simp at h2
        omega), if_neg (by simpa using h)]
set_option maxRecDepth 100000 in
theorem stringsCount_any (s : ByteArray) (w : World) :
    Calls Try.prog 21 #[.string s, .string ⟨#[10]⟩] w fun e w' => e = .returned (.int .i64 (Lib.countByte s.data.toList 10)) ∧ w' = w := by
  go_enter Try.func21, Try.ntmps21
  go_wp2
  rw [run_callFunc_extern Try.func30 (by kernel_rfl) (by kernel_rfl) (by kernel_rfl) (e := Extern.BytealgCount.count) (by kernel_rfl), Lib.run_countString]
  simp only [Result.andThen]
  rw [Oper.upon_value]
  go_wp2
  go_ret
  exact ⟨rfl, rfl⟩
set_option maxRecDepth 100000 in
theorem lines_yes {l vs : List Nat} (hv : V l vs) (hl : l.length ≤ 1099511627776) (w : World) :
    Calls Try.prog 9 #[.string (bstr l)] w fun e w' => e = .returned (.tuple #[.int .i64 ((lst vs : Int) + 1), .int .i64 0]) ∧ w' = w := by
  have GV := Lib.hid (fun w => utfValid_yes hv hl w)
  have GC := Lib.hid (fun w => stringsCount_any (bstr l) w)
  rw [countByte_is l hv.lt, hv.count] at GC
  have h1 := lst_le vs
  have h2 := hv.length_le
  have h3 : 0 ≤ (lst vs : Int) ∧ (lst vs : Int) ≤ 1099511627776 := by omega
  obtain ⟨h3, h4⟩ := h3
  clear h1 h2
  generalize (lst vs : Int) = n at *
  go_enter Try.func9, Try.ntmps9
  go_wp2_with fail
  refine (GV.out _).mono ?_
  rintro e w1 ⟨rfl, rfl⟩
  go_wp2_with fail
  refine (GC.out _).mono ?_
  rintro e w1 ⟨rfl, rfl⟩
  go_wp2
  go_ret2
  exact ⟨by rw [show n + 1 = 1 + n from Int.add_comm _ _]; rfl, rfl⟩
set_option maxRecDepth 100000 in
theorem lines_bad {l : List Nat} (hv : ¬ ∃ vs, V l vs) (hb : ∀ x ∈ l, x < 256) (hl : l.length ≤ 1099511627776) (w : World) :
    Calls Try.prog 9 #[.string (bstr l)] w fun e w' => e = .returned (.tuple #[.int .i64 0, .int .i64 2]) ∧ w' = w := by
  have GV := Lib.hid (fun w => utfValid_no hv hb hl w)
  go_enter Try.func9, Try.ntmps9
  go_wp2_with fail
  refine (GV.out _).mono ?_
  rintro e w1 ⟨rfl, rfl⟩
  go_wp2
  go_ret2
  exact ⟨rfl, rfl⟩
end Go.Proofs.Ytgenphpaidanhaa
