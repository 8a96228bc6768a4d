/- grid's At: a place's point. Condition: a text of no more than 2^40 bytes. -/
import Derived.Test.YtgenphpaidanhaaGridPoints
import Derived.Test.YtgenphpaidanhaaUtfValid
namespace Go.Proofs.Ytgenphpaidanhaa
open Go.RowKit Go.Deep Go.Shelf Ieee
theorem run_store_complex {P : Program} {w : World} {a : Addr} {m : Mode} (k : FloatKind) (x y : Nat) : (store a (.complex k x y) m).run P w = stored P w a (.complex k x y) m := run_store P w a _ m rfl
attribute [local go_sem] Oper.semAt_some run_store_complex

theorem cell_of_box (W : World) (v : Value) (t : TypeId) : (W.alloc (.cells #[v] t)).cell? ⟨W.heap.size, 0, none⟩ = some v ∧ (W.alloc (.cells #[v] t)).frozen? ⟨W.heap.size, 0, none⟩ = false := by
  have h := World.alloc_heap_new W (.cells #[v] t)
  constructor
  · unfold World.cell?; rw [h]; rfl
  · unfold World.frozen?; rw [h]; rfl
theorem cell_alloc_l {W : World} {a : Addr} {v : Value} (o : Obj) (h : W.cell? a = some v) : (W.alloc o).cell? a = some v := cell_kept h (World.grownBy_alloc W o none) (fun r e => by cases e)
theorem frozen_alloc_l {W : World} {a : Addr} {v : Value} (o : Obj) (h : W.cell? a = some v) (hf : W.frozen? a = false) : (W.alloc o).frozen? a = false := (frozen_kept h (World.grownBy_alloc W o none) (fun r e => by cases e)).trans hf

/-- What At's loop holds: the place that is asked for, and the results' cells. -/
structure AtI (b : Nat) (v0 v1 v2 : Value) (W : World) : Prop where
  c0 : W.cell? ⟨b, 0, none⟩ = some v0
  c1 : W.cell? ⟨b + 1, 0, none⟩ = some v1
  f1 : W.frozen? ⟨b + 1, 0, none⟩ = false
  c2 : W.cell? ⟨b + 1 + 1, 0, none⟩ = some v2
  f2 : W.frozen? ⟨b + 1 + 1, 0, none⟩ = false
theorem AtI.kept {b : Nat} {v0 v1 v2 : Value} {W W' : World} {row : Option Nat} (h : AtI b v0 v1 v2 W) (hg : W.grownBy W' row) (hr : ∀ r, row = some r → ∃ o : Obj, W.heap[r]? = some o ∧ o.isCells = false) : AtI b v0 v1 v2 W' :=
  ⟨cell_kept h.c0 hg hr, cell_kept h.c1 hg hr, (frozen_kept h.c1 hg hr).trans h.f1, cell_kept h.c2 hg hr, (frozen_kept h.c2 hg hr).trans h.f2⟩
theorem AtI.alloc {b : Nat} {v0 v1 v2 : Value} {W : World} (h : AtI b v0 v1 v2 W) (o : Obj) : AtI b v0 v1 v2 (W.alloc o) := h.kept (World.grownBy_alloc W o none) (fun r e => by cases e)
theorem AtI.new (w : World) (v0 v1 v2 : Value) (t0 t1 t2 : TypeId) : AtI w.heap.size v0 v1 v2 (((w.alloc (.cells #[v0] t0)).alloc (.cells #[v1] t1)).alloc (.cells #[v2] t2)) := by
  have h0 := cell_of_box w v0 t0
  have h1 := cell_of_box (w.alloc (.cells #[v0] t0)) v1 t1
  have h2 := cell_of_box ((w.alloc (.cells #[v0] t0)).alloc (.cells #[v1] t1)) v2 t2
  simp only [World.size_alloc] at h1 h2
  exact ⟨cell_alloc_l _ (cell_alloc_l _ h0.1), cell_alloc_l _ h1.1, frozen_alloc_l _ h1.1 h1.2, h2.1, h2.2⟩
theorem AtI.set {b : Nat} {v0 v1 v2 u1 u2 : Value} {W : World} (h : AtI b v0 v1 v2 W) : AtI b v0 u1 u2 ((W.setCell ⟨b + 1, 0, none⟩ u1).setCell ⟨b + 1 + 1, 0, none⟩ u2) := by
  have k1 := World.cell?_setCell_same' W ⟨b + 1, 0, none⟩ u1 (by rw [h.c1]; rfl)
  refine ⟨?_, ?_, by rw [World.frozen?_setCell, World.frozen?_setCell]; exact h.f1, ?_, by rw [World.frozen?_setCell, World.frozen?_setCell]; exact h.f2⟩
  · exact (World.cell?_setCell_other _ _ ⟨b, 0, none⟩ _ (by simp)).trans ((World.cell?_setCell_other _ _ ⟨b, 0, none⟩ _ (by simp)).trans h.c0)
  · exact (World.cell?_setCell_other _ _ ⟨b + 1, 0, none⟩ _ (by simp)).trans k1
  · exact World.cell?_setCell_same' _ _ _ (by rw [World.cell?_setCell_other _ _ ⟨b + 1 + 1, 0, none⟩ _ (by simp), h.c2]; rfl)

set_option maxHeartbeats 4000000 in
set_option maxRecDepth 100000 in
theorem at_in {l vs : List Nat} (hv : V l vs) (hl : l.length ≤ 1099511627776) (place : Int) (w : World) :
    Calls Try.prog 11 #[.string (bstr l), .int .i64 place] w fun e W' => ((∃ q a b, q ≤ vs.length ∧ (q : Int) = place ∧ PtV a b (col vs q : Int) (lin vs q : Int) ∧ e = .returned (.tuple #[.complex .f64 a b, .int .i64 0])) ∨
      ((∀ q : Nat, q ≤ vs.length → (q : Int) ≠ place) ∧ e = .returned (.tuple #[.complex .f64 0 0, .int .i64 1]))) ∧ Below w.heap.size w W' := by
  have GV := Lib.hid (fun w => utfValid_yes hv hl w)
  refine (callsIn_wide (n := 3)).1 ?_
  refine callsIn_of_wp_marks Try.func11 rfl trivial ?_ rfl
  simp only [Try.ntmps11, List.size_toArray, List.length_cons, List.length_nil, Nat.reduceAdd, Nat.reduceSub, Array.replicate_succ, Array.replicate_zero, List.push_toArray, List.append_toArray, List.nil_append, List.cons_append]
  gi_wp2_with (refine ⟨trivial, (callsIn_wide.2 (GV.out _)).mono ?_⟩; rintro e w1 ⟨rfl, rfl⟩)
  have hI0 := AtI.new w (.int .i64 place) (.complex .f64 0 0) (.int .i64 0) 3 27 23
  have hB0 : Below w.heap.size w (((w.alloc (.cells #[.int .i64 place] 3)).alloc (.cells #[.complex .f64 0 0] 27)).alloc (.cells #[.int .i64 0] 23)) := (((Below.refl _ w).alloc (Nat.le_refl _) _).alloc (by simp) _).alloc (by simp; omega) _
  have hS0 : w.heap.size ≤ (((w.alloc (.cells #[.int .i64 place] 3)).alloc (.cells #[.complex .f64 0 0] 27)).alloc (.cells #[.int .i64 0] 23)).heap.size := hB0.size
  generalize ((w.alloc (.cells #[.int .i64 place] 3)).alloc (.cells #[.complex .f64 0 0] 27)).alloc (.cells #[.int .i64 0] 23) = W0 at hI0 hB0 hS0 ⊢
  refine ⟨trivial, (points_any _ _ _).mono ?_⟩
  rintro e w1 ⟨rfl, rfl⟩
  have hb := cell_of_box W0 (.string (bstr l)) 9
  gi_wp2
  refine wpIn_rangeFunc_ownF rfl (by omega) (gf := 32) (lb := #[.pointer (some ⟨W0.heap.size, 0, none⟩)]) rfl trivial (enters_of Try.func32 (by kernel_rfl) rfl)
    (points_stops hv hl 2 (by omega) W0.heap.size _ (by simp) hb.1) walksK_t walksK_b (Below.refl _ _) (fun _ => rfl)
    (fun pre W => ((∀ x ∈ pre, (x.1.1 : Int) ≠ place) ∧ AtI w.heap.size (.int .i64 place) (.complex .f64 0 0) (.int .i64 0) W) ∧ Below w.heap.size w W)
    (fun c pre W => (c = .ret ∧ ∃ q a b, q ≤ vs.length ∧ (q : Int) = place ∧ PtV a b (col vs q : Int) (lin vs q : Int) ∧ AtI w.heap.size (.int .i64 place) (.complex .f64 a b) (.int .i64 0) W) ∧ Below w.heap.size w W)
    (OwnFrom.and (Own.from (fun s A B row hs hg hr => ⟨hs.1, hs.2.kept hg hr⟩) _) (ownFrom_below (Nat.le_refl _) (by simp; omega)))
    (fun c => OwnFrom.and (Own.from (fun s A B row hs hg hr => ⟨hs.1, by obtain ⟨q, a, b, h1, h2, h3, h4⟩ := hs.2; exact ⟨q, a, b, h1, h2, h3, h4.kept hg hr⟩⟩) _) (ownFrom_below (Nat.le_refl _) (by simp; omega)))
    ⟨⟨by simp, hI0.alloc _⟩, hB0.alloc hS0 _⟩
    (fun x => { tmps := #[.string (bstr l), .int .i64 place, undef, .pointer (some ⟨w.heap.size, 0, none⟩), .pointer (some ⟨w.heap.size + 1, 0, none⟩), .pointer (some ⟨w.heap.size + 1 + 1, 0, none⟩), .int .i64 (x.1.1 : Int), .complex .f64 x.1.2.1 x.1.2.2, .string (bstr l), .bool true, .bool false, .string (bstr l),
      .func (.func 32) #[] #[.pointer (some ⟨W0.heap.size, 0, none⟩)], .int .i64 (x.1.1 : Int), .complex .f64 x.1.2.1 x.1.2.2, undef, undef, undef, undef], defers := [] }) ?assign ?body ?done ?stop
  case assign =>
    rintro k ⟨⟨q, a, b⟩, hq⟩ W K hK
    dsimp only [ptVals]
    gi_wp2
    exact hK
  case body =>
    rintro k pre ⟨⟨q, a, b⟩, hq, hp⟩ W ⟨⟨hne, hi⟩, hB⟩ _
    have c0 := hi.c0
    have c1 := hi.c1
    have f1 := hi.f1
    have c2 := hi.c2
    have f2 := hi.f2
    by_cases hx : (q : Int) = place
    · gi_wp2
      refine ⟨(KeepsOthers.setCell _ _ _).trans (KeepsOthers.setCell _ _ _), ⟨rfl, q, a, b, hq, hx, hp, hi.set⟩, (hB.setCell (p := ⟨w.heap.size + 1, 0, none⟩) (by simp) _).setCell (p := ⟨w.heap.size + 1 + 1, 0, none⟩) (by simp; omega) _⟩
    · gi_wp2
      refine ⟨KeepsOthers.refl _, KeepsWalks.refl _, ⟨fun x hxx => ?_, hi⟩, hB⟩
      rcases List.mem_append.1 hxx with h | h
      · exact hne x h
      · rw [List.mem_singleton.1 h]; exact hx
  case done =>
    rintro D ys W hD hys ⟨⟨hne, hi⟩, hB⟩ hK
    have c1 := hi.c1
    have f1 := hi.f1
    have c2 := hi.c2
    have f2 := hi.f2
    gi_wp2
    have hi2 := hi.set (u1 := .complex .f64 0 0) (u2 := .int .i64 1)
    have hK2 := ((KeepsOthers.setCell W ⟨w.heap.size + 1, 0, none⟩ (.complex .f64 0 0)).trans (KeepsOthers.setCell _ ⟨w.heap.size + 1 + 1, 0, none⟩ (.int .i64 1))).same D _ hK rfl
    have hB2 := (hB.setCell (p := ⟨w.heap.size + 1, 0, none⟩) (by simp) (.complex .f64 0 0)).setCell (p := ⟨w.heap.size + 1 + 1, 0, none⟩) (by simp; omega) (.int .i64 1)
    have hi3 := hi2.kept (grownBy_putObj' _ D (.deferred none)) (fun r e => by cases e; exact ⟨_, hK2, rfl⟩)
    have d1 := hi3.c1
    have d2 := hi3.c2
    refine ⟨by simp, .inl ⟨_, _, rfl, run_takeDeferred hK2, ?_⟩⟩
    refine ⟨.tuple #[.complex .f64 0 0, .int .i64 1], by simp [results, Try.f11, go_sem, d1, d2], .inr ⟨fun q hq h => ?_, rfl⟩, hB2.trans (belowK_b (w := w) (Nat.le_refl _) _ D _ _ (by simp at hD; omega) hK2 rfl rfl)⟩
    have hm : q ∈ ys.map (fun x => x.1.1) := by rw [hys]; exact List.mem_range.2 (by omega)
    obtain ⟨x, hx, rfl⟩ := List.mem_map.1 hm
    exact hne x hx h
  case stop =>
    rintro D c pre W hD _ ⟨⟨rfl, q, a, b, hq, hx, hp, hi⟩, hB⟩ hK
    gi_wp2
    have hi3 := hi.kept (grownBy_putObj' _ D (.deferred none)) (fun r e => by cases e; exact ⟨_, hK, rfl⟩)
    have d1 := hi3.c1
    have d2 := hi3.c2
    refine ⟨by simp, .inl ⟨_, _, rfl, run_takeDeferred hK, ?_⟩⟩
    exact ⟨.tuple #[.complex .f64 a b, .int .i64 0], by simp [results, Try.f11, go_sem, d1, d2], .inl ⟨q, a, b, hq, hx, hp, rfl⟩, hB.trans (belowK_b (w := w) (Nat.le_refl _) W D _ _ (by simp at hD; omega) hK rfl rfl)⟩
set_option maxRecDepth 100000 in
theorem at_bad {l : List Nat} (hv : ¬ ∃ vs, V l vs) (hb : ∀ x ∈ l, x < 256) (hl : l.length ≤ 1099511627776) (place : Int) (w : World) :
    Calls Try.prog 11 #[.string (bstr l), .int .i64 place] w fun e W' => e = .returned (.tuple #[.complex .f64 0 0, .int .i64 2]) ∧ Below w.heap.size w W' := by
  have GV := Lib.hid (fun w => utfValid_no hv hb hl w)
  go_enter Try.func11, Try.ntmps11
  go_wp2_with fail
  refine (GV.out _).mono ?_
  rintro e w1 ⟨rfl, rfl⟩
  have hI0 := AtI.new w (.int .i64 place) (.complex .f64 0 0) (.int .i64 0) 3 27 23
  have hB0 : Below w.heap.size w (((w.alloc (.cells #[.int .i64 place] 3)).alloc (.cells #[.complex .f64 0 0] 27)).alloc (.cells #[.int .i64 0] 23)) := (((Below.refl _ w).alloc (Nat.le_refl _) _).alloc (by simp) _).alloc (by simp; omega) _
  generalize ((w.alloc (.cells #[.int .i64 place] 3)).alloc (.cells #[.complex .f64 0 0] 27)).alloc (.cells #[.int .i64 0] 23) = W0 at hI0 hB0 ⊢
  have c1 := hI0.c1
  have f1 := hI0.f1
  have c2 := hI0.c2
  have f2 := hI0.f2
  go_wp2
  have hi3 := hI0.set (u1 := .complex .f64 0 0) (u2 := .int .i64 2)
  have d1 := hi3.c1
  have d2 := hi3.c2
  refine bodyPost_ret (v := .tuple #[.complex .f64 0 0, .int .i64 2]) (by simp [results, Try.f11, go_sem, d1, d2]) rfl ?_
  exact ⟨rfl, (hB0.setCell (p := ⟨w.heap.size + 1, 0, none⟩) (by simp) (.complex .f64 0 0)).setCell (p := ⟨w.heap.size + 1 + 1, 0, none⟩) (by simp; omega) (.int .i64 2)⟩
end Go.Proofs.Ytgenphpaidanhaa
