/- grid's Place: a point's place. Conditions: a text of no more than 2^40 bytes; a point whose parts are numbers of sixteenths below 2^53. -/
import Derived.Test.YtgenphpaidanhaaGridAt
namespace Go.Proofs.Ytgenphpaidanhaa
open Go.RowKit Go.Deep Go.Shelf Ieee
attribute [-go_sem] binOp_float_cmp_eql binOp_float_cmp_neq binOp_float_cmp_lss binOp_float_cmp_leq binOp_float_cmp_gtr binOp_float_cmp_geq run_eql_complex run_neq_complex
attribute [local go_sem] Oper.semAt_some

/-- No place that has come is the point. -/
def NoneIs (vs : List Nat) (x y : Int) (pre : List (Pt vs)) : Prop := ∀ p ∈ pre, ¬ (16 * (col vs p.1.1 : Int) = x ∧ 16 * (lin vs p.1.1 : Int) = y)

set_option maxHeartbeats 4000000 in
set_option maxRecDepth 100000 in
theorem place_in {l vs : List Nat} (hv : V l vs) (hl : l.length ≤ 1099511627776) {ca cb : Nat} {x y : Int} (hca : FV ca x) (hcb : FV cb y) (w : World) :
    Calls Try.prog 13 #[.string (bstr l), .complex .f64 ca cb] w fun e W' => ((∃ q : Nat, q ≤ vs.length ∧ ((16 * (col vs q : Int) = x ∧ 16 * (lin vs q : Int) = y)) ∧ e = .returned (.tuple #[.int .i64 (q : Int), .int .i64 0])) ∨
      ((∀ q : Nat, q ≤ vs.length → ¬ (16 * (col vs q : Int) = x ∧ 16 * (lin vs q : Int) = y)) ∧ e = .returned (.tuple #[.int .i64 0, .int .i64 1]))) ∧ Below w.heap.size w W' := by
  have GV := Lib.hid (fun w => utfValid_yes hv hl w)
  refine (callsIn_wide (n := 3)).1 ?_
  refine callsIn_of_wp_marks Try.func13 rfl trivial ?_ rfl
  simp only [Try.ntmps13, List.size_toArray, List.length_cons, List.length_nil, Nat.reduceAdd, Nat.reduceSub, Array.replicate_succ, Array.replicate_zero, List.push_toArray, List.append_toArray, List.nil_append, List.cons_append]
  gi_wp2_with (refine ⟨trivial, (callsIn_wide.2 (GV.out _)).mono ?_⟩; rintro e w1 ⟨rfl, rfl⟩)
  have hI0 := AtI.new w (.complex .f64 ca cb) (.int .i64 0) (.int .i64 0) 27 3 23
  have hB0 : Below w.heap.size w (((w.alloc (.cells #[.complex .f64 ca cb] 27)).alloc (.cells #[.int .i64 0] 3)).alloc (.cells #[.int .i64 0] 23)) := (((Below.refl _ w).alloc (Nat.le_refl _) _).alloc (by simp) _).alloc (by simp; omega) _
  have hS0 : w.heap.size ≤ (((w.alloc (.cells #[.complex .f64 ca cb] 27)).alloc (.cells #[.int .i64 0] 3)).alloc (.cells #[.int .i64 0] 23)).heap.size := hB0.size
  generalize ((w.alloc (.cells #[.complex .f64 ca cb] 27)).alloc (.cells #[.int .i64 0] 3)).alloc (.cells #[.int .i64 0] 23) = W0 at hI0 hB0 hS0 ⊢
  refine ⟨trivial, (points_any _ _ _).mono ?_⟩
  rintro e w1 ⟨rfl, rfl⟩
  have hb := cell_of_box W0 (.string (bstr l)) 9
  gi_wp2
  refine wpIn_rangeFunc_ownF rfl (by omega) (gf := 32) (lb := #[.pointer (some ⟨W0.heap.size, 0, none⟩)]) rfl trivial (enters_of Try.func32 (by kernel_rfl) rfl)
    (points_stops hv hl 2 (by omega) W0.heap.size _ (by simp) hb.1) walksK_t walksK_b (Below.refl _ _) (fun _ => rfl)
    (fun pre W => (NoneIs vs x y pre ∧ AtI w.heap.size (.complex .f64 ca cb) (.int .i64 0) (.int .i64 0) W) ∧ Below w.heap.size w W)
    (fun c pre W => (c = .ret ∧ ∃ q : Nat, q ≤ vs.length ∧ (16 * (col vs q : Int) = x ∧ 16 * (lin vs q : Int) = y) ∧ AtI w.heap.size (.complex .f64 ca cb) (.int .i64 (q : Int)) (.int .i64 0) W) ∧ Below w.heap.size w W)
    (OwnFrom.and (Own.from (fun s A B row hs hg hr => ⟨hs.1, hs.2.kept hg hr⟩) _) (ownFrom_below (Nat.le_refl _) (by simp; omega)))
    (fun c => OwnFrom.and (Own.from (fun s A B row hs hg hr => ⟨hs.1, by obtain ⟨q, h1, h2, h4⟩ := hs.2; exact ⟨q, h1, h2, h4.kept hg hr⟩⟩) _) (ownFrom_below (Nat.le_refl _) (by simp; omega)))
    ⟨⟨(fun _ h => by cases h), hI0.alloc _⟩, hB0.alloc hS0 _⟩
    (fun p => { tmps := #[.string (bstr l), .complex .f64 ca cb, undef, .pointer (some ⟨w.heap.size, 0, none⟩), .pointer (some ⟨w.heap.size + 1, 0, none⟩), .pointer (some ⟨w.heap.size + 1 + 1, 0, none⟩), .int .i64 (p.1.1 : Int), .complex .f64 p.1.2.1 p.1.2.2, .string (bstr l), .bool true, .bool false, .string (bstr l),
      .func (.func 32) #[] #[.pointer (some ⟨W0.heap.size, 0, none⟩)], .int .i64 (p.1.1 : Int), .complex .f64 p.1.2.1 p.1.2.2, undef, undef, undef, undef], defers := [] }) ?assign ?body ?done ?stop
  case assign =>
    rintro k ⟨⟨q, a, b⟩, hq⟩ W K hK
    dsimp only [ptVals]
    gi_wp2
    exact hK
  case body =>
    rintro k pre ⟨⟨q, a, b⟩, hq, hp⟩ W ⟨⟨hne, hi⟩, hB⟩ _
    have c0 := hi.c0
    have c1 := hi.c1
    have f1 := hi.f1
    have c2 := hi.c2
    have f2 := hi.f2
    by_cases hx : 16 * (col vs q : Int) = x ∧ 16 * (lin vs q : Int) = y
    · have hop := ceq_fv hp.1 hp.2 hca hcb (r := true) (decide_eq_true hx)
      gi_wp2
      refine ⟨(KeepsOthers.setCell _ _ _).trans (KeepsOthers.setCell _ _ _), ⟨rfl, q, hq, hx, hi.set⟩, (hB.setCell (p := ⟨w.heap.size + 1, 0, none⟩) (by simp) _).setCell (p := ⟨w.heap.size + 1 + 1, 0, none⟩) (by simp; omega) _⟩
    · have hop := ceq_fv hp.1 hp.2 hca hcb (r := false) (decide_eq_false hx)
      gi_wp2
      have hall : ∀ p ∈ pre ++ [(⟨(q, a, b), hq, hp⟩ : Pt vs)], ¬ (16 * (col vs p.1.1 : Int) = x ∧ 16 * (lin vs p.1.1 : Int) = y) := by
        intro p2 hxx
        rcases List.mem_append.1 hxx with h | h
        · exact hne p2 h
        · rw [List.mem_singleton.1 h]; exact hx
      exact ⟨KeepsOthers.refl _, KeepsWalks.refl _, ⟨hall, hi⟩, hB⟩
  case done =>
    rintro D ys W hD hys ⟨⟨hne, hi⟩, hB⟩ hK
    have c1 := hi.c1
    have f1 := hi.f1
    have c2 := hi.c2
    have f2 := hi.f2
    gi_wp2
    have hi2 := hi.set (u1 := .int .i64 0) (u2 := .int .i64 1)
    have hK2 := ((KeepsOthers.setCell W ⟨w.heap.size + 1, 0, none⟩ (.int .i64 0)).trans (KeepsOthers.setCell _ ⟨w.heap.size + 1 + 1, 0, none⟩ (.int .i64 1))).same D _ hK rfl
    have hB2 := (hB.setCell (p := ⟨w.heap.size + 1, 0, none⟩) (by simp) (.int .i64 0)).setCell (p := ⟨w.heap.size + 1 + 1, 0, none⟩) (by simp; omega) (.int .i64 1)
    have hi3 := hi2.kept (grownBy_putObj' _ D (.deferred none)) (fun r e => by cases e; exact ⟨_, hK2, rfl⟩)
    have d1 := hi3.c1
    have d2 := hi3.c2
    refine ⟨by simp, .inl ⟨_, _, rfl, run_takeDeferred hK2, ?_⟩⟩
    refine ⟨.tuple #[.int .i64 0, .int .i64 1], by simp [results, Try.f13, go_sem, d1, d2], .inr ⟨fun q hq h => ?_, rfl⟩, hB2.trans (belowK_b (w := w) (Nat.le_refl _) _ D _ _ (by simp at hD; omega) hK2 rfl rfl)⟩
    have hm : q ∈ ys.map (fun x => x.1.1) := by rw [hys]; exact List.mem_range.2 (by omega)
    obtain ⟨p, hp, rfl⟩ := List.mem_map.1 hm
    exact hne p hp h
  case stop =>
    rintro D c pre W hD _ ⟨⟨rfl, q, hq, hx, hi⟩, hB⟩ hK
    gi_wp2
    have hi3 := hi.kept (grownBy_putObj' _ D (.deferred none)) (fun r e => by cases e; exact ⟨_, hK, rfl⟩)
    have d1 := hi3.c1
    have d2 := hi3.c2
    refine ⟨by simp, .inl ⟨_, _, rfl, run_takeDeferred hK, ?_⟩⟩
    exact ⟨.tuple #[.int .i64 (q : Int), .int .i64 0], by simp [results, Try.f13, go_sem, d1, d2], .inl ⟨q, hq, hx, rfl⟩, hB.trans (belowK_b (w := w) (Nat.le_refl _) W D _ _ (by simp at hD; omega) hK rfl rfl)⟩
set_option maxRecDepth 100000 in
theorem place_bad {l : List Nat} (hv : ¬ ∃ vs, V l vs) (hb : ∀ x ∈ l, x < 256) (hl : l.length ≤ 1099511627776) (ca cb : Nat) (w : World) :
    Calls Try.prog 13 #[.string (bstr l), .complex .f64 ca cb] w fun e W' => e = .returned (.tuple #[.int .i64 0, .int .i64 2]) ∧ Below w.heap.size w W' := by
  have GV := Lib.hid (fun w => utfValid_no hv hb hl w)
  go_enter Try.func13, Try.ntmps13
  go_wp2_with fail
  refine (GV.out _).mono ?_
  rintro e w1 ⟨rfl, rfl⟩
  have hI0 := AtI.new w (.complex .f64 ca cb) (.int .i64 0) (.int .i64 0) 27 3 23
  have hB0 : Below w.heap.size w (((w.alloc (.cells #[.complex .f64 ca cb] 27)).alloc (.cells #[.int .i64 0] 3)).alloc (.cells #[.int .i64 0] 23)) := (((Below.refl _ w).alloc (Nat.le_refl _) _).alloc (by simp) _).alloc (by simp; omega) _
  generalize ((w.alloc (.cells #[.complex .f64 ca cb] 27)).alloc (.cells #[.int .i64 0] 3)).alloc (.cells #[.int .i64 0] 23) = W0 at hI0 hB0 ⊢
  have c1 := hI0.c1
  have f1 := hI0.f1
  have c2 := hI0.c2
  have f2 := hI0.f2
  go_wp2
  have hi3 := hI0.set (u1 := .int .i64 0) (u2 := .int .i64 2)
  have d1 := hi3.c1
  have d2 := hi3.c2
  refine bodyPost_ret (v := .tuple #[.int .i64 0, .int .i64 2]) (by simp [results, Try.f13, go_sem, d1, d2]) rfl ?_
  exact ⟨rfl, (hB0.setCell (p := ⟨w.heap.size + 1, 0, none⟩) (by simp) (.int .i64 0)).setCell (p := ⟨w.heap.size + 1 + 1, 0, none⟩) (by simp; omega) (.int .i64 2)⟩
end Go.Proofs.Ytgenphpaidanhaa
