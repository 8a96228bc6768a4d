/- The parts that compose's walk makes, in plain mathematics. No condition beyond those that each lemma states. (Merged of 6 texts.) -/
import Derived.Test.YtnadhpajelkngaaKEdit
import Derived.Test.YtnadhpajelkngaaKPt
import Derived.Test.YtnadhpajelkngaaKBase
import Derived.Test.YtnadhpajelkngaaKCells
/- The document's own walk over the parts of an edit: kind, left. Conditions: the parts of texts are texts of no more than 2^40 bytes. -/
namespace Go.Proofs.Ytnadhpajelkngaa
open Go.RowKit Go.Deep

def walkCells (A : Option Addr) (m c : Nat) (at_ n : Nat) (j : Nat) : Value := if j = 0 then .slice A m c else if j = 1 then .int .i64 (at_ : Int) else .int .i64 (n : Int)
/-- The block g holds a walk: the parts l, which lie ahead of B, at the part at_, of which n are gone. -/
def WalkAt (B g : Nat) (l : List CompV) (at_ n : Nat) (w : World) : Prop := ∃ A c, w.rowIs g 67 3 (walkCells A l.length c at_ n) ∧ CompsAt w A l ∧ (0 < l.length → ∃ b off, A = some ⟨b, off, none⟩ ∧ b < B) ∧ B ≤ g
theorem WalkAt.lt {B g : Nat} {l : List CompV} {at_ n : Nat} {w : World} (h : WalkAt B g l at_ n w) : g < w.heap.size := by
  obtain ⟨_, _, h, _⟩ := h
  exact h.lt
theorem WalkAt.ge {B g : Nat} {l : List CompV} {at_ n : Nat} {w : World} (h : WalkAt B g l at_ n w) : B ≤ g := by
  obtain ⟨_, _, _, _, _, h⟩ := h
  exact h
theorem WalkAt.below {B g : Nat} {l : List CompV} {at_ n : Nat} {w w' : World} (h : WalkAt B g l at_ n w) (hb : Below w.heap.size w w') : WalkAt B g l at_ n w' := by
  obtain ⟨A, c, h1, h2, h3⟩ := h
  exact ⟨A, c, h1.of_block (hb.block g h1.lt), h2.below hb, h3⟩
def kindOf (l : List CompV) (at_ : Nat) : Int := match l[at_]? with | none => 0 | some c => c.kind
/-- How much of a part there is. -/
def sizeOf' (c : CompV) : Int := if c.kind = 2 then (loose c.text : Int) else c.n
theorem keep_two' {g b : Nat} {w x : World} (h : w.heap.size ≤ x.heap.size) (hg : x.heap[g]? = w.heap[g]?) (hb : x.heap[b]? = w.heap[b]?) : (keepBlocks [g, b]).r w x :=
  ⟨h, fun k hk => by
    rcases List.mem_cons.1 hk with rfl | hk
    · exact hg
    · rw [List.mem_singleton.1 hk]; exact hb⟩
set_option maxRecDepth 100000 in
theorem walkKind_any (B g : Nat) (l : List CompV) (hl : l.length ≤ 1099511627776) (at_ n : Nat) (hat : at_ ≤ l.length) (w : World) (h : WalkAt B g l at_ n w) :
    Calls Try.prog 31 #[.pointer (some ⟨g, 0, none⟩)] w fun e w' => e = .returned (.int .i64 (kindOf l at_)) ∧ Below w.heap.size w w' := by
  obtain ⟨A, c, h1, h2, _⟩ := h
  have HC := Lib.hid h2
  have c0 : w.cell? ⟨g, 0, none⟩ = some (.slice A l.length c) := (h1.cell (i := 0) (by omega)).trans rfl
  have c1 : w.cell? ⟨g, 1, none⟩ = some (.int .i64 (at_ : Int)) := (h1.cell (i := 1) (by omega)).trans rfl
  clear h1 h2
  by_cases hlt : at_ < l.length
  · obtain ⟨b, off, rfl, _⟩ := HC.out.form (by omega)
    obtain ⟨x0, _, _⟩ := HC.out.at_ hlt
    have HK : Hid (kindOf l at_ = l[at_].kind) := by show _ = _; rw [kindOf, List.getElem?_eq_getElem hlt]
    rw [HK.out]
    generalize l[at_].kind = kd at x0
    clear HK
    have e0 : ∀ e : ExtK (keepBlocks [g, b]) w.drew, e.val.cell? ⟨g, 0, none⟩ = some (.slice (some ⟨b, off, none⟩) l.length c) := fun e => (cell_of_block (e.property.2 g (by simp)) 0).trans c0
    have e1 : ∀ e : ExtK (keepBlocks [g, b]) w.drew, e.val.cell? ⟨g, 1, none⟩ = some (.int .i64 (at_ : Int)) := fun e => (cell_of_block (e.property.2 g (by simp)) 1).trans c1
    go_enter Try.func31, Try.ntmps31
    go_wp2_with fail
    refine wp_region_held_lit (keepBlocks [g, b]) [(0, true), (1, true), (2, true), (3, true), (4, true), (5, true), (6, true), (7, true), (8, true), (9, true)] (by kernel_rfl) (by kernel_rfl) (fun _ _ d _ _ h => by cases d <;> exact h) ?_
    simp only [picked, List.map_cons, List.map_nil, List.getElem?_cons_succ, List.getElem?_cons_zero, Option.getD_some]
    repeat (refine wpH_quiet (by rfl) (fun K hK => ?_); go_big_quiet_op; refine hK _ ?_; clear hK K)
    refine wpH_nil ?_
    clear e0 e1
    have e0 : ∀ e : ExtK (keepBlocks [g, b]) w.drew.drew, e.val.cell? ⟨g, 0, none⟩ = some (.slice (some ⟨b, off, none⟩) l.length c) := fun e => (cell_of_block (e.property.2 g (by simp)) 0).trans c0
    have e1 : ∀ e : ExtK (keepBlocks [g, b]) w.drew.drew, e.val.cell? ⟨g, 1, none⟩ = some (.int .i64 (at_ : Int)) := fun e => (cell_of_block (e.property.2 g (by simp)) 1).trans c1
    have e2 : ∀ e : ExtK (keepBlocks [g, b]) w.drew.drew, e.val.cell? ⟨b, off + at_ * 3, none⟩ = some (.int .i64 kd) := fun e => (cell_of_block (e.property.2 b (by simp)) _).trans x0
    go_wp2_with fail
    refine wp_region_held_lit (keepBlocks [g, b]) [(0, true), (1, true), (2, true), (3, true), (4, true), (5, true), (6, true), (7, true), (8, true), (9, true), (10, true), (11, true)] (by kernel_rfl) (by kernel_rfl) (fun _ _ d _ _ h => by cases d <;> exact h) ?_
    simp only [picked, List.map_cons, List.map_nil, List.getElem?_cons_succ, List.getElem?_cons_zero, Option.getD_some]
    repeat (refine wpH_quiet (by rfl) (fun K hK => ?_); go_big_quiet_op; refine hK _ ?_; clear hK K)
    refine wpH_nil ?_
    clear e0 e1 e2
    go_wp2
    go_ret
    exact ⟨rfl, (Below.refl w.heap.size w).drew.drew⟩
  · have HK : Hid (kindOf l at_ = 0) := by show _ = _; rw [kindOf, List.getElem?_eq_none (by omega)]
    rw [HK.out]
    have e0 : ∀ e : ExtK (keepBlocks [g]) w.drew, e.val.cell? ⟨g, 0, none⟩ = some (.slice A l.length c) := fun e => (cell_of_block (e.property.2 g (by simp)) 0).trans c0
    have e1 : ∀ e : ExtK (keepBlocks [g]) w.drew, e.val.cell? ⟨g, 1, none⟩ = some (.int .i64 (at_ : Int)) := fun e => (cell_of_block (e.property.2 g (by simp)) 1).trans c1
    have hge : (l.length : Int) ≤ (at_ : Int) := by omega
    go_enter Try.func31, Try.ntmps31
    go_wp2_with fail
    refine wp_region_held_lit (keepBlocks [g]) [(0, true), (1, true), (2, true), (3, true), (4, true), (5, true), (6, true), (7, true), (8, true), (9, true)] (by kernel_rfl) (by kernel_rfl) (fun _ _ d _ _ h => by cases d <;> exact h) ?_
    simp only [picked, List.map_cons, List.map_nil, List.getElem?_cons_succ, List.getElem?_cons_zero, Option.getD_some]
    repeat (refine wpH_quiet (by rfl) (fun K hK => ?_); go_big_quiet_op; refine hK _ ?_; clear hK K)
    refine wpH_nil ?_
    clear e0 e1
    go_wp2
    go_ret
    exact ⟨rfl, (Below.refl w.heap.size w).drew⟩
end Go.Proofs.Ytnadhpajelkngaa

/- The document's own walk over the parts of an edit: left. Conditions: the parts of texts are texts of no more than 2^40 bytes; no more is gone than there is. -/
namespace Go.Proofs.Ytnadhpajelkngaa
open Go.RowKit Go.Deep

set_option maxHeartbeats 1000000 in
set_option maxRecDepth 100000 in
theorem walkLeft_any (B g : Nat) (l : List CompV) (hl : l.length ≤ 1099511627776) (at_ n : Nat) (hat : at_ < l.length) (hg : l[at_].Good) (ht : l[at_].text.length ≤ 1099511627776) (hv : l[at_].kind = 2 → ∃ vs, V l[at_].text vs) (hn : (n : Int) ≤ sizeOf' l[at_]) (w : World) (h : WalkAt B g l at_ n w) :
    Calls Try.prog 33 #[.pointer (some ⟨g, 0, none⟩)] w fun e w' => e = .returned (.int .i64 (sizeOf' l[at_] - n)) ∧ Below w.heap.size w w' := by
  obtain ⟨A, c, h1, h2, _⟩ := h
  have HC := Lib.hid h2
  have HGL := Lib.hid h1.lt
  have c0 : w.cell? ⟨g, 0, none⟩ = some (.slice A l.length c) := (h1.cell (i := 0) (by omega)).trans rfl
  have c1 : w.cell? ⟨g, 1, none⟩ = some (.int .i64 (at_ : Int)) := (h1.cell (i := 1) (by omega)).trans rfl
  have c2 : w.cell? ⟨g, 2, none⟩ = some (.int .i64 (n : Int)) := (h1.cell (i := 2) (by omega)).trans rfl
  clear h1 h2
  obtain ⟨b, off, rfl, hblt⟩ := HC.out.form (by omega)
  have HBL := Lib.hid hblt
  clear hblt
  obtain ⟨x0, x1, x2⟩ := HC.out.at_ hat
  generalize l[at_] = y at x0 x1 x2 hg ht hv hn
  obtain ⟨kd, m, tx⟩ := y
  simp only at x0 x1 x2 hg ht hv
  obtain ⟨R, HR⟩ : ∃ R : Int, Hid (sizeOf' ⟨kd, m, tx⟩ - (n : Int) = R) := ⟨_, Lib.hid rfl⟩
  rw [HR.out]
  have e0 : ∀ e : ExtK (keepBlocks [g, b]) w.drew, e.val.cell? ⟨g, 0, none⟩ = some (.slice (some ⟨b, off, none⟩) l.length c) := fun e => (cell_of_block (e.property.2 g (by simp)) 0).trans c0
  have e1 : ∀ e : ExtK (keepBlocks [g, b]) w.drew, e.val.cell? ⟨g, 1, none⟩ = some (.int .i64 (at_ : Int)) := fun e => (cell_of_block (e.property.2 g (by simp)) 1).trans c1
  have e2 : ∀ e : ExtK (keepBlocks [g, b]) w.drew, e.val.cell? ⟨b, off + at_ * 3, none⟩ = some (.int .i64 kd) := fun e => (cell_of_block (e.property.2 b (by simp)) _).trans x0
  have e3 : ∀ e : ExtK (keepBlocks [g, b]) w.drew, e.val.cell? ⟨b, off + at_ * 3 + 1, none⟩ = some (.int .i64 m) := fun e => (cell_of_block (e.property.2 b (by simp)) _).trans x1
  have e4 : ∀ e : ExtK (keepBlocks [g, b]) w.drew, e.val.cell? ⟨b, off + at_ * 3 + 2, none⟩ = some (.string (bstr tx)) := fun e => (cell_of_block (e.property.2 b (by simp)) _).trans x2
  go_enter Try.func33, Try.ntmps33
  go_wp2_with fail
  refine wp_region_held_lit (keepBlocks [g, b]) [(0, true), (1, true), (2, true), (3, true), (4, true), (5, true), (6, true), (7, true), (8, true), (9, true), (10, false), (11, false)] (by kernel_rfl) (by kernel_rfl) (fun _ _ d _ _ h => by cases d <;> exact h) ?_
  simp only [picked, List.map_cons, List.map_nil, List.getElem?_cons_succ, List.getElem?_cons_zero, Option.getD_some]
  repeat (refine wpH_quiet (by rfl) (fun K hK => ?_); go_big_quiet_op; refine hK _ ?_; clear hK K)
  clear e0 e1 e2 e3 e4
  refine wpH_one (by rfl) (fun K hK => ?_)
  go_simp
  have hbA : Below w.heap.size w (w.alloc (Obj.cells #[.int .i64 0, .int .i64 0, .string { data := #[] }] 54)) := (Below.refl _ _).alloc (Nat.le_refl _) _
  have HBA := Lib.hid hbA
  refine hK _ _ (keep_two' (by simp) (hbA.block g HGL.out) (hbA.block b HBL.out)) ?_
  clear hK K hbA
  refine wpH_one (by rfl) (fun K hK => ?_)
  go_simp
  have hbB : Below w.heap.size w (w.alloc (Obj.cells #[.int .i64 kd, .int .i64 m, .string (bstr tx)] 54)) := (Below.refl _ _).alloc (Nat.le_refl _) _
  have HBB : Hid (Below w.heap.size w (w.alloc (Obj.cells #[.int .i64 kd, .int .i64 m, .string (bstr tx)] 54)).drew) := hbB.drew
  have hrow := cell_of_row (w.alloc (Obj.cells #[.int .i64 kd, .int .i64 m, .string (bstr tx)] 54)).drew w.heap.size
  have d0 : (w.alloc (Obj.cells #[.int .i64 kd, .int .i64 m, .string (bstr tx)] 54)).drew.cell? ⟨w.heap.size, 0, none⟩ = some (.int .i64 kd) := by rw [hrow _ _ _ _ (heap_alloc_new w _)]; rfl
  have d1 : (w.alloc (Obj.cells #[.int .i64 kd, .int .i64 m, .string (bstr tx)] 54)).drew.cell? ⟨w.heap.size, 1, none⟩ = some (.int .i64 m) := by rw [hrow _ _ _ _ (heap_alloc_new w _)]; rfl
  have d2 : (w.alloc (Obj.cells #[.int .i64 kd, .int .i64 m, .string (bstr tx)] 54)).drew.cell? ⟨w.heap.size, 2, none⟩ = some (.string (bstr tx)) := by rw [hrow _ _ _ _ (heap_alloc_new w _)]; rfl
  refine hK _ _ (keep_two' (by simp) ((hbB.block g HGL.out).trans (HBA.out.block g HGL.out).symm) ((hbB.block b HBL.out).trans (HBA.out.block b HBL.out).symm)) ?_
  clear hK K hbB HBA hrow
  refine wpH_nil ?_
  have f2 := (HBB.out.cell (p := ⟨g, 2, none⟩) HGL.out).trans c2
  obtain ⟨s, HS⟩ : ∃ s, Hid (w.heap.size = s) := ⟨_, Lib.hid rfl⟩
  rw [HS.out] at d0 d1 d2 ⊢
  have HSL : Hid (s < (w.alloc (Obj.cells #[.int .i64 kd, .int .i64 m, .string (bstr tx)] 54)).drew.heap.size) := by show _ < _; rw [← HS.out]; simp
  generalize (w.alloc (Obj.cells #[.int .i64 kd, .int .i64 m, .string (bstr tx)] 54)).drew = w1 at d0 d1 d2 f2 HBB HSL ⊢
  by_cases h2 : kd = 2
  · subst h2
    obtain ⟨vs, hvs⟩ := hv rfl
    have hz : sizeOf' ⟨2, m, tx⟩ = (loose tx : Int) := rfl
    rw [hz] at hn HR
    have GC := Lib.hid (fun w => refCount_yes hvs ht w)
    have hlv : vs.length = loose tx := hvs.loose.symm
    rw [hlv] at GC
    have hzl := loose_le tx
    obtain ⟨z, HZ⟩ : ∃ z, Hid (loose tx = z) := ⟨_, Lib.hid rfl⟩
    rw [HZ.out] at GC hn hzl HR
    clear hz hlv hvs hv x0 x1 x2 c0 c1 c2
    have e1 : ∀ e : ExtK (keepBlocks [g, s]) w1.drew, e.val.cell? ⟨s, 2, none⟩ = some (.string (bstr tx)) := fun e => (cell_of_block (e.property.2 s (by simp)) _).trans d2
    have e2 : ∀ e : ExtK (keepBlocks [g, s]) w1.drew, e.val.cell? ⟨g, 2, none⟩ = some (.int .i64 (n : Int)) := fun e => (cell_of_block (e.property.2 g (by simp)) _).trans f2
    go_wp2_with fail
    refine wp_region_held_lit (keepBlocks [g, s]) [(0, true), (1, true), (3, true), (4, true), (5, true), (6, true), (2, false), (7, true), (8, true)] (by kernel_rfl) (by kernel_rfl) (fun _ _ d _ _ h => by cases d <;> exact h) ?_
    simp only [picked, List.map_cons, List.map_nil, List.getElem?_cons_succ, List.getElem?_cons_zero, Option.getD_some]
    repeat (refine wpH_quiet (by rfl) (fun K hK => ?_); go_big_quiet_op; refine hK _ ?_; clear hK K)
    clear e1 e2
    refine wpH_one (by rfl) (fun K hK => ?_)
    go_simp
    refine (GC.out _).mono ?_
    rintro e w2 ⟨rfl, hb2⟩
    have HB2 : Hid (Below w1.heap.size w1 w2) := (Below.refl w1.heap.size w1).drew.trans hb2
    clear hb2
    refine hK _ _ (keep_two' HB2.out.size (HB2.out.block g (by have := HBB.out.size; have := HGL.out; omega)) (HB2.out.block s HSL.out)) ?_
    clear hK K
    repeat (refine wpH_quiet (by rfl) (fun K hK => ?_); go_big_quiet_op; refine hK _ ?_; clear hK K)
    refine wpH_nil ?_
    go_wp2
    go_ret
    exact ⟨by rw [← HR.out]; rfl, HBB.out.trans (HB2.out.mono HBB.out.size)⟩
  · have g2 : (kd == 2) = false := beq_eq_false_iff_ne.2 h2
    have hz : sizeOf' ⟨kd, m, tx⟩ = m := if_neg h2
    rw [hz] at hn HR
    obtain ⟨hm1, hm2⟩ : Fit64 m := hg.2.1
    have e1 : ∀ e : ExtK (keepBlocks [g, s]) w1.drew, e.val.cell? ⟨s, 1, none⟩ = some (.int .i64 m) := fun e => (cell_of_block (e.property.2 s (by simp)) _).trans d1
    have e2 : ∀ e : ExtK (keepBlocks [g, s]) w1.drew, e.val.cell? ⟨g, 2, none⟩ = some (.int .i64 (n : Int)) := fun e => (cell_of_block (e.property.2 g (by simp)) _).trans f2
    clear hz hv x0 x1 x2 c0 c1 c2 hg h2
    go_wp2_with fail
    refine wp_region_held_lit (keepBlocks [g, s]) [(0, true), (1, true), (2, true), (3, true), (4, true), (5, true), (6, true), (7, true)] (by kernel_rfl) (by kernel_rfl) (fun _ _ d _ _ h => by cases d <;> exact h) ?_
    simp only [picked, List.map_cons, List.map_nil, List.getElem?_cons_succ, List.getElem?_cons_zero, Option.getD_some]
    repeat (refine wpH_quiet (by rfl) (fun K hK => ?_); go_big_quiet_op; refine hK _ ?_; clear hK K)
    refine wpH_nil ?_
    clear e1 e2
    go_wp2
    go_ret
    exact ⟨by rw [← HR.out]; rfl, HBB.out.drew⟩
end Go.Proofs.Ytnadhpajelkngaa

/- The document's own walk over the parts of an edit: take. Conditions: the part is one of a normal edit, its text of no more than 2^40 bytes; no more is taken than there is. -/
namespace Go.Proofs.Ytnadhpajelkngaa
open Go.RowKit Go.Deep

theorem comps_only {B k : Nat} {A : Option Addr} {l : List CompV} {w w' : World} (h2 : CompsAt w A l) (h3 : 0 < l.length → ∃ b off, A = some ⟨b, off, none⟩ ∧ b < B) (ho : Only k w w') (hB : B ≤ k) : CompsAt w' A l := by
  rcases h2 with h2 | ⟨b', off', e, hlt, hc⟩
  · exact .inl h2
  · by_cases h0 : 0 < l.length
    · obtain ⟨b, off, hA, hb⟩ := h3 h0
      have hbb : b' = b := by rw [hA] at e; cases e; rfl
      exact .inr ⟨b', off', e, Nat.lt_of_lt_of_le hlt ho.size, fun j v hj => (cell_of_block (ho.block b' hlt (by omega)) _).trans (hc j v hj)⟩
    · have : l = [] := List.eq_nil_of_length_eq_zero (by omega)
      subst this
      exact .inl rfl
theorem WalkAt.keep {B g k : Nat} {l : List CompV} {at_ n : Nat} {w w' : World} (h : WalkAt B g l at_ n w) (ho : Only k w w') (hk : k ≠ g) (hB : B ≤ k) : WalkAt B g l at_ n w' := by
  obtain ⟨A, c, h1, h2, h3, h4⟩ := h
  exact ⟨A, c, h1.of_block (ho.block g h1.lt (by omega)), comps_only h2 h3 ho hB, h3, h4⟩
theorem row_new (w : World) (c : Array Value) (t : TypeId) : (w.alloc (.cells c t)).rowIs w.heap.size t c.size (fun i => (c[i]?).getD undef) := World.rowIs_alloc w c t _ (fun i hi => by simp [hi])
theorem sizeOf_sz {c : CompV} (h : Wh c) : sizeOf' c = (sz c : Int) := by
  rcases h.cases with ⟨g, gn, _⟩ | ⟨g, gn, _⟩ | ⟨g, _, _, gv⟩
  · rw [sizeOf', if_neg (by omega), sz_not (by omega)]; omega
  · rw [sizeOf', if_neg (by omega), sz_not (by omega)]; omega
  · rw [sizeOf', if_pos g, sz_two g, cps_loose gv]
/-- While a part is taken: the walk, and the two records in the making. -/
structure Tk (B g ga gb : Nat) (l : List CompV) (at_ n : Nat) (f h : Nat → Value) (w0 w : World) : Prop where
  walk : WalkAt B g l at_ n w
  only : Only g w0 w
  ra : w.rowIs ga 54 3 f
  rb : w.rowIs gb 54 3 h
  gea : w0.heap.size ≤ ga
  geb : w0.heap.size ≤ gb
  ne : ga ≠ gb
  g0 : g < w0.heap.size
namespace Tk
variable {B g ga gb : Nat} {l : List CompV} {at_ n : Nat} {f h : Nat → Value} {w0 w w' : World}
theorem below (t : Tk B g ga gb l at_ n f h w0 w) (hb : Below w.heap.size w w') : Tk B g ga gb l at_ n f h w0 w' :=
  ⟨t.walk.below hb, t.only.trans (Only.of_below hb), t.ra.of_block (hb.block ga t.ra.lt), t.rb.of_block (hb.block gb t.rb.lt), t.gea, t.geb, t.ne, t.g0⟩
theorem setN (t : Tk B g ga gb l at_ n f h w0 w) (m : Nat) : Tk B g ga gb l at_ m f h w0 (w.setCell ⟨g, 2, none⟩ (.int .i64 (m : Int))) := by
  have hga : ga ≠ g := by have := t.gea; have := t.g0; omega
  have hgb : gb ≠ g := by have := t.geb; have := t.g0; omega
  obtain ⟨A, c, h1, h2, h3, h4⟩ := t.walk
  have ho := (Only.refl g w).set 2 (.int .i64 (m : Int))
  refine ⟨⟨A, c, (h1.set 2 _).congr ?_, ?_, h3, h4⟩, t.only.set 2 _, t.ra.setOther hga _, t.rb.setOther hgb _, t.gea, t.geb, t.ne, t.g0⟩
  · intro i hi
    have : i = 0 ∨ i = 1 ∨ i = 2 := by omega
    rcases this with rfl | rfl | rfl <;> rfl
  · exact comps_only h2 h3 ho h4
theorem setAt (t : Tk B g ga gb l at_ n f h w0 w) (m : Nat) : Tk B g ga gb l m n f h w0 (w.setCell ⟨g, 1, none⟩ (.int .i64 (m : Int))) := by
  have hga : ga ≠ g := by have := t.gea; have := t.g0; omega
  have hgb : gb ≠ g := by have := t.geb; have := t.g0; omega
  obtain ⟨A, c, h1, h2, h3, h4⟩ := t.walk
  have ho := (Only.refl g w).set 1 (.int .i64 (m : Int))
  refine ⟨⟨A, c, (h1.set 1 _).congr ?_, ?_, h3, h4⟩, t.only.set 1 _, t.ra.setOther hga _, t.rb.setOther hgb _, t.gea, t.geb, t.ne, t.g0⟩
  · intro i hi
    have : i = 0 ∨ i = 1 ∨ i = 2 := by omega
    rcases this with rfl | rfl | rfl <;> rfl
  · exact comps_only h2 h3 ho h4
theorem setA (t : Tk B g ga gb l at_ n f h w0 w) (i : Nat) (v : Value) : Tk B g ga gb l at_ n (fun j => if j = i then v else f j) h w0 (w.setCell ⟨ga, i, none⟩ v) := by
  have hg : ga ≠ g := by have := t.gea; have := t.g0; omega
  have hB : B ≤ ga := by have := t.gea; have := t.g0; have := t.walk.ge; omega
  exact ⟨t.walk.keep ((Only.refl ga w).set i v) hg hB, ⟨t.only.os, t.only.tape, t.only.output, by simpa [World.setCell] using t.only.size, fun k hk hkg => (Below.heap_setCell w ⟨ga, i, none⟩ v k (by show k ≠ ga; have := t.gea; omega)).trans (t.only.block k hk hkg)⟩, t.ra.set i v, t.rb.setOther (fun e => t.ne e.symm) v, t.gea, t.geb, t.ne, t.g0⟩
theorem setB (t : Tk B g ga gb l at_ n f h w0 w) (i : Nat) (v : Value) : Tk B g ga gb l at_ n f (fun j => if j = i then v else h j) w0 (w.setCell ⟨gb, i, none⟩ v) := by
  have hg : gb ≠ g := by have := t.geb; have := t.g0; omega
  have hB : B ≤ gb := by have := t.geb; have := t.g0; have := t.walk.ge; omega
  exact ⟨t.walk.keep ((Only.refl gb w).set i v) hg hB, ⟨t.only.os, t.only.tape, t.only.output, by simpa [World.setCell] using t.only.size, fun k hk hkg => (Below.heap_setCell w ⟨gb, i, none⟩ v k (by show k ≠ gb; have := t.geb; omega)).trans (t.only.block k hk hkg)⟩, t.ra.setOther t.ne v, t.rb.set i v, t.gea, t.geb, t.ne, t.g0⟩
theorem n_cell (t : Tk B g ga gb l at_ n f h w0 w) : w.cell? ⟨g, 2, none⟩ = some (.int .i64 (n : Int)) ∧ w.frozen? ⟨g, 2, none⟩ = false := by
  obtain ⟨A, c, h1, _⟩ := t.walk
  exact ⟨(h1.cell (i := 2) (by omega)).trans rfl, h1.frozen 2⟩
theorem at_cell (t : Tk B g ga gb l at_ n f h w0 w) : w.cell? ⟨g, 1, none⟩ = some (.int .i64 (at_ : Int)) ∧ w.frozen? ⟨g, 1, none⟩ = false := by
  obtain ⟨A, c, h1, _⟩ := t.walk
  exact ⟨(h1.cell (i := 1) (by omega)).trans rfl, h1.frozen 1⟩
end Tk
set_option maxHeartbeats 8000000 in
set_option maxRecDepth 100000 in
theorem walkTake_any (B g : Nat) (l : List CompV) (hl : l.length ≤ 1099511627776) (at_ n k : Nat) (hat : at_ < l.length) (hw : Wh l[at_]) (hg : l[at_].Good) (ht : l[at_].text.length ≤ 1099511627776) (hnk : n + k ≤ sz l[at_]) (hk0 : 0 < k) (hk : k ≤ 1099511627776) (hn0 : n ≤ 1099511627776) (w : World) (h : WalkAt B g l at_ n w) :
    Calls Try.prog 32 #[.pointer (some ⟨g, 0, none⟩), .int .i64 (k : Int)] w fun e w' =>
      e = .returned (.agg #[.int .i64 (piece (cut l[at_] n) k).kind, .int .i64 (piece (cut l[at_] n) k).n, .string (bstr (piece (cut l[at_] n) k).text)]) ∧
      WalkAt B g l (if n + k = sz l[at_] then at_ + 1 else at_) (if n + k = sz l[at_] then 0 else n + k) w' ∧ Only g w w' := by
  have HGL := Lib.hid h.lt
  have HPC := Lib.hid (piece_cut hw n k)
  have hs := sizeOf_sz hw
  have GL := Lib.hid (fun m w (hm : m ≤ sz l[at_]) (h : WalkAt B g l at_ m w) => walkLeft_any B g l hl at_ m hat hg ht (fun h2 => by rcases hw.cases with g | g | g <;> first | omega | exact g.2.2.2) (by rw [hs]; omega) w h)
  rw [hs] at GL
  have HV : Hid (l[at_].kind = 2 → ∃ vs, V l[at_].text vs) := fun h2 => by rcases hw.cases with g | g | g <;> first | omega | exact g.2.2.2
  have HS : Hid (l[at_].kind = 2 → sz l[at_] = (cps l[at_].text).length) := fun h2 => sz_two h2
  have HG0 : Hid (Fit64 l[at_].n ∧ Fit64 l[at_].kind) := ⟨hg.2.1, hg.1⟩
  have HW := Lib.hid h
  clear h hs
  obtain ⟨A, c, h1, h2, h3, _⟩ := HW.out
  have c0 : w.cell? ⟨g, 0, none⟩ = some (.slice A l.length c) := (h1.cell (i := 0) (by omega)).trans rfl
  have c1 : w.cell? ⟨g, 1, none⟩ = some (.int .i64 (at_ : Int)) := (h1.cell (i := 1) (by omega)).trans rfl
  have c2 : w.cell? ⟨g, 2, none⟩ = some (.int .i64 (n : Int)) := (h1.cell (i := 2) (by omega)).trans rfl
  have HC := Lib.hid h2
  clear h1 h2 h3
  obtain ⟨b, off, rfl, hblt⟩ := HC.out.form (by omega)
  have HBL := Lib.hid hblt
  clear hblt
  obtain ⟨x0, x1, x2⟩ := HC.out.at_ hat
  obtain ⟨S, HSZ⟩ : ∃ S, Hid (sz l[at_] = S) := ⟨_, Lib.hid rfl⟩
  rw [HSZ.out] at hnk GL HS ⊢
  generalize piece (cut l[at_] n) k = p at HPC ⊢
  clear hw hg
  generalize l[at_] = y at x0 x1 x2 ht HPC HV HS HG0
  obtain ⟨kd, m, tx⟩ := y
  simp only at x0 x1 x2 ht HPC HV HS HG0
  have d0 := (Below.refl w.heap.size w).alloc (Nat.le_refl _) (Obj.cells #[.int .i64 0, .int .i64 0, .string { data := #[] }] 54)
  have hra := row_new w #[.int .i64 0, .int .i64 0, .string { data := #[] }] 54
  go_enter Try.func32, Try.ntmps32
  go_wp2_with fail
  obtain ⟨wA, HWA⟩ : ∃ wA, Hid (w.alloc (Obj.cells #[.int .i64 0, .int .i64 0, .string { data := #[] }] 54) = wA) := ⟨_, rfl⟩
  obtain ⟨ga, HGA⟩ : ∃ ga, Hid (w.heap.size = ga) := ⟨_, rfl⟩
  rw [HWA.out] at d0 hra ⊢
  rw [HGA.out] at hra ⊢
  have HD0 : Hid (Below w.heap.size w wA) := by show Below _ _ _; exact d0
  have HRA : Hid (wA.rowIs ga 54 3 _) := hra
  clear d0 hra
  have HWsz : Hid (wA.heap.size = ga + 1) := by show _ = _; rw [← HWA.out, ← HGA.out]; simp
  have a0 : ∀ p : Addr, p.block < w.heap.size → wA.cell? p = w.cell? p := fun p hp => HD0.out.cell hp
  rw [← a0 _ HGL.out] at c0 c1 c2
  rw [← a0 _ HBL.out] at x0 x1 x2
  clear a0
  have e0 : ∀ e : ExtK (keepBlocks [g, b]) wA.drew, e.val.cell? ⟨g, 0, none⟩ = some (.slice (some ⟨b, off, none⟩) l.length c) := fun e => (cell_of_block (e.property.2 g (by simp)) 0).trans c0
  have e1 : ∀ e : ExtK (keepBlocks [g, b]) wA.drew, e.val.cell? ⟨g, 1, none⟩ = some (.int .i64 (at_ : Int)) := fun e => (cell_of_block (e.property.2 g (by simp)) 1).trans c1
  have e2 : ∀ e : ExtK (keepBlocks [g, b]) wA.drew, e.val.cell? ⟨b, off + at_ * 3, none⟩ = some (.int .i64 kd) := fun e => (cell_of_block (e.property.2 b (by simp)) _).trans x0
  have e3 : ∀ e : ExtK (keepBlocks [g, b]) wA.drew, e.val.cell? ⟨b, off + at_ * 3 + 1, none⟩ = some (.int .i64 m) := fun e => (cell_of_block (e.property.2 b (by simp)) _).trans x1
  have e4 : ∀ e : ExtK (keepBlocks [g, b]) wA.drew, e.val.cell? ⟨b, off + at_ * 3 + 2, none⟩ = some (.string (bstr tx)) := fun e => (cell_of_block (e.property.2 b (by simp)) _).trans x2
  refine wp_region_held_lit (keepBlocks [g, b]) [(0, true), (1, true), (2, true), (3, true), (4, true), (5, true), (6, true), (7, true), (8, true), (9, true), (10, false), (11, false)] (by kernel_rfl) (by kernel_rfl) (fun _ _ d _ _ h => by cases d <;> exact h) ?_
  simp only [picked, List.map_cons, List.map_nil, List.getElem?_cons_succ, List.getElem?_cons_zero, Option.getD_some]
  repeat (refine wpH_quiet (by rfl) (fun K hK => ?_); go_big_quiet_op; refine hK _ ?_; clear hK K)
  clear e0 e1 e2 e3 e4 c0 c1 x0 x1 x2
  refine wpH_one (by rfl) (fun K hK => ?_)
  go_simp
  have hbA : Below wA.heap.size wA (wA.alloc (Obj.cells #[.int .i64 0, .int .i64 0, .string { data := #[] }] 54)) := (Below.refl _ _).alloc (Nat.le_refl _) _
  have HGL2 : Hid (g < wA.heap.size) := by show g < _; rw [HWsz.out, ← HGA.out]; have := HGL.out; omega
  have HBL2 : Hid (b < wA.heap.size) := by show b < _; rw [HWsz.out, ← HGA.out]; have := HBL.out; omega
  refine hK _ _ (keep_two' (by simp) (hbA.block g HGL2.out) (hbA.block b HBL2.out)) ?_
  clear hK K
  refine wpH_one (by rfl) (fun K hK => ?_)
  go_simp
  have hbB : Below wA.heap.size wA (wA.alloc (Obj.cells #[.int .i64 kd, .int .i64 m, .string (bstr tx)] 54)) := (Below.refl _ _).alloc (Nat.le_refl _) _
  have HBB : Hid (Below wA.heap.size wA (wA.alloc (Obj.cells #[.int .i64 kd, .int .i64 m, .string (bstr tx)] 54)).drew) := hbB.drew
  have hrow := row_new wA #[.int .i64 kd, .int .i64 m, .string (bstr tx)] 54
  refine hK _ _ (keep_two' (by simp) ((hbB.block g HGL2.out).trans (hbA.block g HGL2.out).symm) ((hbB.block b HBL2.out).trans (hbA.block b HBL2.out).symm)) ?_
  clear hK K hbB hbA
  refine wpH_nil ?_
  have HRX : Hid ((wA.alloc (Obj.cells #[.int .i64 kd, .int .i64 m, .string (bstr tx)] 54)).drew.rowIs wA.heap.size 54 3 (fun i => ((#[.int .i64 kd, .int .i64 m, .string (bstr tx)] : Array Value)[i]?).getD undef)) := hrow
  clear hrow
  have HSZ1 : Hid ((wA.alloc (Obj.cells #[.int .i64 kd, .int .i64 m, .string (bstr tx)] 54)).drew.heap.size = ga + 2) := by show _ = _; simp [HWsz.out]
  rw [HWsz.out] at HRX ⊢
  generalize (wA.alloc (Obj.cells #[.int .i64 kd, .int .i64 m, .string (bstr tx)] 54)).drew = w1 at HBB HRX HSZ1 ⊢
  have HB1 : Hid (Below w.heap.size w w1) := HD0.out.trans (HBB.out.mono (by rw [HWsz.out, HGA.out]; omega))
  have HRA1 := Lib.hid (HRA.out.of_block (HBB.out.block ga (by rw [HWsz.out]; omega)))
  have y0 : w1.cell? ⟨ga + 1, 0, none⟩ = some (.int .i64 kd) := HRX.out.cell (i := 0) (by omega)
  have hw2 := row_new w1 #[.int .i64 kd, .int .i64 (k : Int), .string { data := #[] }] 54
  obtain ⟨w2, HW2⟩ : ∃ w2, Hid (w1.alloc (Obj.cells #[.int .i64 kd, .int .i64 (k : Int), .string { data := #[] }] 54) = w2) := ⟨_, rfl⟩
  have HB2 : Hid (Below w1.heap.size w1 w2) := by show Below _ _ _; rw [← HW2.out]; exact (Below.refl _ _).alloc (Nat.le_refl _) _
  rw [HW2.out, HSZ1.out] at hw2
  have T2 : ∃ fa fb : Nat → Value, Hid (fa 0 = .int .i64 0 ∧ fa 1 = .int .i64 0 ∧ fa 2 = .string { data := #[] }) ∧ Hid (fb 0 = .int .i64 kd ∧ fb 1 = .int .i64 (k : Int) ∧ fb 2 = .string { data := #[] }) ∧ Hid (Tk B g ga (ga + 2) l at_ n fa fb w w2) :=
    ⟨_, _, ⟨rfl, rfl, rfl⟩, ⟨rfl, rfl, rfl⟩, ⟨HW.out.below (HB1.out.trans (HB2.out.mono HB1.out.size)), Only.of_below (HB1.out.trans (HB2.out.mono HB1.out.size)), HRA1.out.of_block (HB2.out.block ga (by rw [HSZ1.out]; omega)), hw2, by rw [HGA.out]; omega, by rw [HGA.out]; omega, by omega, HGL.out⟩⟩
  obtain ⟨fa, fb, HFA, HFB, T2⟩ := T2
  have z0 : w2.cell? ⟨ga + 1, 0, none⟩ = some (.int .i64 kd) := (HB2.out.cell (p := ⟨ga + 1, 0, none⟩) (by show ga + 1 < _; rw [HSZ1.out]; omega)).trans y0
  have z2 : w2.cell? ⟨ga + 1, 2, none⟩ = some (.string (bstr tx)) := (HB2.out.cell (p := ⟨ga + 1, 2, none⟩) (by show ga + 1 < _; rw [HSZ1.out]; omega)).trans (HRX.out.cell (i := 2) (by omega))
  rw [← HW2.out] at z0 z2
  have n0 := T2.out.n_cell.1
  have n1 := T2.out.n_cell.2
  rw [← HW2.out] at n0 n1
  clear hw2 c2
  have hnk2 : n + k ≤ 2199023255552 := by omega
  by_cases h2 : kd = 2
  · obtain ⟨vs, hvs⟩ := HV.out h2
    have hS := HS.out h2
    have HP2 : Hid (p = ⟨2, 0, E (List.drop n (List.take (n + k) (cps tx)))⟩) := by show _ = _; rw [HPC.out, if_pos h2]
    clear HPC HV HS
    subst h2
    have hcps := cps_of hvs
    have GS := Lib.hid (fun w => refSlice_yes hvs ht n (n + k) (by omega) (by rw [← hcps, ← hS]; exact hnk) w)
    rw [Int.natCast_add, ← hcps] at GS
    obtain ⟨tt, HTT⟩ : ∃ t, Hid (E (List.drop n (List.take (n + k) (cps tx))) = t) := ⟨_, Lib.hid rfl⟩
    rw [HTT.out] at GS HP2
    clear hvs hS hcps
    have e1 : ∀ e : ExtK (keepBlocks [ga + 1, g]) w2.drew, e.val.cell? ⟨ga + 1, 2, none⟩ = some (.string (bstr tx)) := fun e => (cell_of_block (e.property.2 (ga + 1) (by simp)) 2).trans (by rw [← HW2.out]; exact z2)
    have e2 : ∀ e : ExtK (keepBlocks [ga + 1, g]) w2.drew, e.val.cell? ⟨g, 2, none⟩ = some (.int .i64 (n : Int)) := fun e => (cell_of_block (e.property.2 g (by simp)) 2).trans (by rw [← HW2.out]; exact n0)
    clear z2
    go_wp2_with fail
    rw [HW2.out, HSZ1.out]
    clear n0 n1 z0
    refine wp_region_held_lit (keepBlocks [ga + 1, g]) [(0, true), (1, true), (2, true), (3, true), (4, true), (5, true), (6, true), (7, true), (8, true), (9, true), (10, true), (11, true), (12, false), (13, false), (14, false)] (by kernel_rfl) (by kernel_rfl) (fun _ _ d _ _ h => by cases d <;> exact h) ?_
    simp only [picked, List.map_cons, List.map_nil, List.getElem?_cons_succ, List.getElem?_cons_zero, Option.getD_some]
    repeat (refine wpH_quiet (by rfl) (fun K hK => ?_); go_big_quiet_op; refine hK _ ?_; clear hK K)
    clear e1 e2
    refine wpH_one (by rfl) (fun K hK => ?_)
    go_simp
    refine (GS.out _).mono ?_
    rintro e w3 ⟨rfl, rfl⟩
    refine hK _ _ ⟨Nat.le_refl _, fun _ _ => rfl⟩ ?_
    clear hK K
    refine wpH_one (by rfl) (fun K hK => ?_)
    go_simp
    refine hK _ _ ⟨Nat.le_refl _, fun _ _ => rfl⟩ ?_
    clear hK K
    have t0 := T2.out
    clear T2
    have k1 := t0.setB 0 (.int .i64 2)
    have b0 := (t0.rb.cell (i := 0) (by omega)).trans (show some (fb 0) = some (.int .i64 2) by rw [HFB.out.1])
    have f0 := t0.rb.frozen 0
    have k2 := k1.setB 1 (.int .i64 0)
    have b1 := (k1.rb.cell (i := 1) (by omega)).trans (show some (fb 1) = some (.int .i64 (k : Int)) by rw [HFB.out.2.1])
    have f1 := k1.rb.frozen 1
    have k3 := k2.setB 2 (.string (bstr tt))
    have b2 := (k2.rb.cell (i := 2) (by omega)).trans (show some (fb 2) = some (.string { data := #[] }) by rw [HFB.out.2.2])
    have f2 := k2.rb.frozen 2
    have T2 : ∃ fb : Nat → Value, Hid (fb 0 = .int .i64 2 ∧ fb 1 = .int .i64 0 ∧ fb 2 = .string (bstr tt)) ∧ Hid (Tk B g ga (ga + 2) l at_ n fa fb w _) :=
      ⟨_, ⟨rfl, rfl, rfl⟩, k3.below (Below.refl _ _).drew⟩
    have HO := Lib.hid (((((Only.refl (ga + 2) w2).set 0 (.int .i64 2)).set 1 (.int .i64 0)).set 2 (.string (bstr tt))).drew)
    have HGW : Hid (g < w2.heap.size) := by show g < _; have := t0.walk.lt; exact this
    have HXW : Hid (ga + 1 < w2.heap.size) := by show ga + 1 < _; have := t0.rb.lt; omega
    clear k1 k2 k3 t0 HFB
    obtain ⟨fb, HFB, T2⟩ := T2
    refine wpH_one (by rfl) (fun K hK => ?_)
    go_simp
    clear b0 b1 b2 f0 f1 f2
    generalize World.drew _ = w3 at T2 HO ⊢
    refine hK _ _ (keep_two' HO.out.size (HO.out.block (ga + 1) HXW.out (by omega)) (HO.out.block g HGW.out (by rw [← HGA.out]; have := HGL.out; omega))) ?_
    clear hK K HO HGW HXW
    refine wpH_nil ?_
    have n0 := T2.out.n_cell.1
    have n1 := T2.out.n_cell.2
    have z0 : True := trivial
    go_wp2_with fail
    have T3 := T2.out.setN (n + k)
    rw [Int.natCast_add] at T3
    refine (GL.out (n + k) _ hnk T3.walk).mono ?_
    rintro e w4 ⟨rfl, hb4⟩
    have T4 := Lib.hid (T3.below hb4)
    clear T3 hb4 n0 n1 z0
    by_cases hz : n + k = S
    · have q0 : ((S : Int) - ((n + k : Nat) : Int) == 0) = true := by rw [hz]; simp
      have i0 := T4.out.at_cell.1
      have i1 := T4.out.at_cell.2
      have hat2 : at_ < 1099511627776 := by omega
      have T5 : Tk B g ga (ga + 2) l (at_ + 1) (n + k) fa fb w (w4.setCell ⟨g, 1, none⟩ (.int .i64 ((at_ : Int) + 1))) := by
        have := T4.out.setAt (at_ + 1)
        rw [Int.natCast_succ] at this
        exact this
      have j0 := T5.n_cell.1
      have j1 := T5.n_cell.2
      have T6 : Tk B g ga (ga + 2) l (at_ + 1) 0 fa fb w ((w4.setCell ⟨g, 1, none⟩ (.int .i64 ((at_ : Int) + 1))).setCell ⟨g, 2, none⟩ (.int .i64 0)) := T5.setN 0
      have b0 := T6.rb.cell (i := 0) (by omega)
      rw [HFB.out.1] at b0
      have b1 := T6.rb.cell (i := 1) (by omega)
      rw [HFB.out.2.1] at b1
      have b2 := T6.rb.cell (i := 2) (by omega)
      rw [HFB.out.2.2] at b2
      have k1 := T6.setA 0 (.int .i64 2)
      have x0 := (T6.ra.cell (i := 0) (by omega)).trans (show some (fa 0) = some (.int .i64 0) by rw [HFA.out.1])
      have f0 := T6.ra.frozen 0
      have k2 := k1.setA 1 (.int .i64 0)
      have x1 := (k1.ra.cell (i := 1) (by omega)).trans (show some (fa 1) = some (.int .i64 0) by rw [HFA.out.2.1])
      have f1 := k1.ra.frozen 1
      have k3 := k2.setA 2 (.string (bstr tt))
      have x2 := (k2.ra.cell (i := 2) (by omega)).trans (show some (fa 2) = some (.string { data := #[] }) by rw [HFA.out.2.2])
      have f2 := k2.ra.frozen 2
      have HK := Lib.hid k3
      clear k1 k2 k3
      go_wp2_with fail
      have hg := rowIs_cells #[(.int .i64 2), (.int .i64 0), (.string (bstr tt))] HK.out.ra (fun i hi => by
        have hi' : i < 3 := hi
        have : i = 0 ∨ i = 1 ∨ i = 2 := by omega
        rcases this with rfl | rfl | rfl <;> rfl)
      (try simp only [Exit.inBlock, Exit.then])
      refine bodyPost_ret (results_cell_row rfl _ _ ga 54 #[(.int .i64 2), (.int .i64 0), (.string (bstr tt))] (0, 0) _ rfl hg Try.underlying54 rfl (by kernel_rfl)) rfl ?_
      exact ⟨by rw [HP2.out], by (try rw [if_pos hz]); (try rw [if_pos hz]); exact HK.out.walk, HK.out.only⟩
    · have q0 : ((S : Int) - ((n + k : Nat) : Int) == 0) = false := beq_eq_false_iff_ne.2 (by omega)
      have T6 := T4.out
      have b0 := T6.rb.cell (i := 0) (by omega)
      rw [HFB.out.1] at b0
      have b1 := T6.rb.cell (i := 1) (by omega)
      rw [HFB.out.2.1] at b1
      have b2 := T6.rb.cell (i := 2) (by omega)
      rw [HFB.out.2.2] at b2
      have k1 := T6.setA 0 (.int .i64 2)
      have x0 := (T6.ra.cell (i := 0) (by omega)).trans (show some (fa 0) = some (.int .i64 0) by rw [HFA.out.1])
      have f0 := T6.ra.frozen 0
      have k2 := k1.setA 1 (.int .i64 0)
      have x1 := (k1.ra.cell (i := 1) (by omega)).trans (show some (fa 1) = some (.int .i64 0) by rw [HFA.out.2.1])
      have f1 := k1.ra.frozen 1
      have k3 := k2.setA 2 (.string (bstr tt))
      have x2 := (k2.ra.cell (i := 2) (by omega)).trans (show some (fa 2) = some (.string { data := #[] }) by rw [HFA.out.2.2])
      have f2 := k2.ra.frozen 2
      have HK := Lib.hid k3
      clear k1 k2 k3
      go_wp2_with fail
      have hg := rowIs_cells #[(.int .i64 2), (.int .i64 0), (.string (bstr tt))] HK.out.ra (fun i hi => by
        have hi' : i < 3 := hi
        have : i = 0 ∨ i = 1 ∨ i = 2 := by omega
        rcases this with rfl | rfl | rfl <;> rfl)
      (try simp only [Exit.inBlock, Exit.then])
      refine bodyPost_ret (results_cell_row rfl _ _ ga 54 #[(.int .i64 2), (.int .i64 0), (.string (bstr tt))] (0, 0) _ rfl hg Try.underlying54 rfl (by kernel_rfl)) rfl ?_
      exact ⟨by rw [HP2.out], by (try rw [if_neg hz]); (try rw [if_neg hz]); exact HK.out.walk, HK.out.only⟩
  · have g2 : (kd == 2) = false := beq_eq_false_iff_ne.2 h2
    clear z2
    go_wp2_with fail
    rw [HW2.out, HSZ1.out]
    have T3 := T2.out.setN (n + k)
    rw [Int.natCast_add] at T3
    refine (GL.out (n + k) _ hnk T3.walk).mono ?_
    rintro e w4 ⟨rfl, hb4⟩
    have T4 := Lib.hid (T3.below hb4)
    clear T3 hb4 n0 n1 z0
    by_cases hz : n + k = S
    · have q0 : ((S : Int) - ((n + k : Nat) : Int) == 0) = true := by rw [hz]; simp
      have i0 := T4.out.at_cell.1
      have i1 := T4.out.at_cell.2
      have hat2 : at_ < 1099511627776 := by omega
      have T5 : Tk B g ga (ga + 2) l (at_ + 1) (n + k) fa fb w (w4.setCell ⟨g, 1, none⟩ (.int .i64 ((at_ : Int) + 1))) := by
        have := T4.out.setAt (at_ + 1)
        rw [Int.natCast_succ] at this
        exact this
      have j0 := T5.n_cell.1
      have j1 := T5.n_cell.2
      have T6 : Tk B g ga (ga + 2) l (at_ + 1) 0 fa fb w ((w4.setCell ⟨g, 1, none⟩ (.int .i64 ((at_ : Int) + 1))).setCell ⟨g, 2, none⟩ (.int .i64 0)) := T5.setN 0
      have b0 := T6.rb.cell (i := 0) (by omega)
      rw [HFB.out.1] at b0
      have b1 := T6.rb.cell (i := 1) (by omega)
      rw [HFB.out.2.1] at b1
      have b2 := T6.rb.cell (i := 2) (by omega)
      rw [HFB.out.2.2] at b2
      have k1 := T6.setA 0 (.int .i64 kd)
      have x0 := (T6.ra.cell (i := 0) (by omega)).trans (show some (fa 0) = some (.int .i64 0) by rw [HFA.out.1])
      have f0 := T6.ra.frozen 0
      have k2 := k1.setA 1 (.int .i64 (k : Int))
      have x1 := (k1.ra.cell (i := 1) (by omega)).trans (show some (fa 1) = some (.int .i64 0) by rw [HFA.out.2.1])
      have f1 := k1.ra.frozen 1
      have k3 := k2.setA 2 (.string { data := #[] })
      have x2 := (k2.ra.cell (i := 2) (by omega)).trans (show some (fa 2) = some (.string { data := #[] }) by rw [HFA.out.2.2])
      have f2 := k2.ra.frozen 2
      have HK := Lib.hid k3
      clear k1 k2 k3
      go_wp2_with fail
      have hg := rowIs_cells #[(.int .i64 kd), (.int .i64 (k : Int)), (.string { data := #[] })] HK.out.ra (fun i hi => by
        have hi' : i < 3 := hi
        have : i = 0 ∨ i = 1 ∨ i = 2 := by omega
        rcases this with rfl | rfl | rfl <;> rfl)
      (try simp only [Exit.inBlock, Exit.then])
      refine bodyPost_ret (results_cell_row rfl _ _ ga 54 #[(.int .i64 kd), (.int .i64 (k : Int)), (.string { data := #[] })] (0, 0) _ rfl hg Try.underlying54 rfl (by kernel_rfl)) rfl ?_
      exact ⟨by rw [HPC.out, if_neg h2]; rfl, by (try rw [if_pos hz]); (try rw [if_pos hz]); exact HK.out.walk, HK.out.only⟩
    · have q0 : ((S : Int) - ((n + k : Nat) : Int) == 0) = false := beq_eq_false_iff_ne.2 (by omega)
      have T6 := T4.out
      have b0 := T6.rb.cell (i := 0) (by omega)
      rw [HFB.out.1] at b0
      have b1 := T6.rb.cell (i := 1) (by omega)
      rw [HFB.out.2.1] at b1
      have b2 := T6.rb.cell (i := 2) (by omega)
      rw [HFB.out.2.2] at b2
      have k1 := T6.setA 0 (.int .i64 kd)
      have x0 := (T6.ra.cell (i := 0) (by omega)).trans (show some (fa 0) = some (.int .i64 0) by rw [HFA.out.1])
      have f0 := T6.ra.frozen 0
      have k2 := k1.setA 1 (.int .i64 (k : Int))
      have x1 := (k1.ra.cell (i := 1) (by omega)).trans (show some (fa 1) = some (.int .i64 0) by rw [HFA.out.2.1])
      have f1 := k1.ra.frozen 1
      have k3 := k2.setA 2 (.string { data := #[] })
      have x2 := (k2.ra.cell (i := 2) (by omega)).trans (show some (fa 2) = some (.string { data := #[] }) by rw [HFA.out.2.2])
      have f2 := k2.ra.frozen 2
      have HK := Lib.hid k3
      clear k1 k2 k3
      go_wp2_with fail
      have hg := rowIs_cells #[(.int .i64 kd), (.int .i64 (k : Int)), (.string { data := #[] })] HK.out.ra (fun i hi => by
        have hi' : i < 3 := hi
        have : i = 0 ∨ i = 1 ∨ i = 2 := by omega
        rcases this with rfl | rfl | rfl <;> rfl)
      (try simp only [Exit.inBlock, Exit.then])
      refine bodyPost_ret (results_cell_row rfl _ _ ga 54 #[(.int .i64 kd), (.int .i64 (k : Int)), (.string { data := #[] })] (0, 0) _ rfl hg Try.underlying54 rfl (by kernel_rfl)) rfl ?_
      exact ⟨by rw [HPC.out, if_neg h2]; rfl, by (try rw [if_neg hz]); (try rw [if_neg hz]); exact HK.out.walk, HK.out.only⟩
end Go.Proofs.Ytnadhpajelkngaa

/- Two walks over the parts of edits, side by side, in plain mathematics: where each is, what is left, how much at most. No condition. -/
namespace Go.Proofs.Ytnadhpajelkngaa

/-- What is left of an edit. -/
noncomputable def rest (l : List CompV) (i n : Nat) : List CompV := match l.drop i with | [] => [] | c :: r => cut c n :: r
/-- A place in an edit. -/
structure Pos (l : List CompV) (i n : Nat) : Prop where
  le : i ≤ l.length
  at_ : ∀ h : i < l.length, n < sz l[i]
theorem rest_in {l : List CompV} {i : Nat} (h : i < l.length) (n : Nat) : rest l i n = cut l[i] n :: l.drop (i + 1) := by
  rw [rest, List.drop_eq_getElem_cons h]
theorem rest_end {l : List CompV} {i : Nat} (h : l.length ≤ i) (n : Nat) : rest l i n = [] := by
  rw [rest, List.drop_eq_nil_of_le h]
theorem rest_start {l : List CompV} (hw : ∀ c ∈ l, Wh c) : rest l 0 0 = l := by
  cases l with
  | nil => rfl
  | cons c r => rw [rest, List.drop_zero]; simp only; rw [cut_zero (hw c (by simp))]
theorem pos_start {l : List CompV} (hw : ∀ c ∈ l, Wh c) : Pos l 0 0 := ⟨Nat.zero_le _, fun h => (hw _ (List.getElem_mem h)).sz⟩
theorem rest_kind (l : List CompV) (i n : Nat) : kd (rest l i n) = kindOf l i := by
  rcases Nat.lt_or_ge i l.length with h | h
  · rw [rest_in h, kindOf, List.getElem?_eq_getElem h]
    exact cut_kind _ _
  · rw [rest_end h, kindOf, List.getElem?_eq_none h]
    rfl
theorem rest_next {l : List CompV} (hw : ∀ c ∈ l, Wh c) {i n k : Nat} (h : i < l.length) (hn : n < sz l[i]) (h0 : 0 < k) (hk : n + k ≤ sz l[i]) :
    rest l (if n + k = sz l[i] then i + 1 else i) (if n + k = sz l[i] then 0 else n + k) = chop (cut l[i] n) (l.drop (i + 1)) k ∧
    Pos l (if n + k = sz l[i] then i + 1 else i) (if n + k = sz l[i] then 0 else n + k) := by
  have wc := hw _ (List.getElem_mem h)
  have hs := (cut_wh wc hn).2
  by_cases e : n + k = sz l[i]
  · rw [if_pos e, if_pos e, chop, if_pos (by omega)]
    refine ⟨?_, by omega, fun h2 => (hw _ (List.getElem_mem h2)).sz⟩
    rcases Nat.lt_or_ge (i + 1) l.length with h2 | h2
    · rw [rest_in h2, cut_zero (hw _ (List.getElem_mem h2)), ← List.drop_eq_getElem_cons h2]
    · rw [rest_end h2, List.drop_eq_nil_of_le h2]
  · rw [if_neg e, if_neg e, chop, if_neg (by omega), rest_in h, cut_cut wc]
    exact ⟨rfl, by omega, fun _ => by omega⟩
/-- How much is left. -/
noncomputable def wt : List CompV → Nat
  | [] => 0
  | c :: l => sz c + wt l
theorem wt_nil : wt [] = 0 := rfl
theorem wt_cons (c : CompV) (l : List CompV) : wt (c :: l) = sz c + wt l := rfl
theorem wt_in : ∀ (l : List CompV), (∀ c ∈ l, Wh c) → wt l ≤ inS l + outS l ∧ (∀ c ∈ l, sz c ≤ inS l + outS l)
  | [], _ => ⟨Nat.zero_le _, fun c hc => by cases hc⟩
  | c :: l, hw => by
    have ih := wt_in l fun x hx => hw x (List.mem_cons_of_mem _ hx)
    have hc : sz c ≤ inN c + outN c := by
      rcases (hw c (by simp)).cases with ⟨g, _⟩ | ⟨g, _⟩ | ⟨g, _⟩
      · rw [sz_not (by omega), in_one g]; omega
      · rw [sz_not (by omega), in_three g]; omega
      · rw [sz_two g, out_two g]; omega
    rw [wt_cons, inS_cons, outS_cons]
    refine ⟨by omega, fun x hx => ?_⟩
    rcases List.mem_cons.1 hx with rfl | hx
    · omega
    · have := ih.2 x hx; omega
theorem chop_wt {c : CompV} (h : Wh c) (l : List CompV) {k : Nat} (hk : k ≤ sz c) : wt (chop c l k) + k = sz c + wt l := by
  by_cases e : k = sz c
  · rw [chop, if_pos e]; omega
  · rw [chop, if_neg e, wt_cons, (cut_wh h (by omega)).2]; omega
theorem rest_wh {l : List CompV} (hw : ∀ c ∈ l, Wh c) {i n : Nat} (h : Pos l i n) : ∀ c ∈ rest l i n, Wh c := by
  rcases Nat.lt_or_ge i l.length with hi | hi
  · rw [rest_in hi]
    exact wh_cons (cut_wh (hw _ (List.getElem_mem hi)) (h.at_ hi)).1 fun x hx => hw x (List.mem_of_mem_drop hx)
  · rw [rest_end hi]
    exact fun c hc => by cases hc
theorem E_len4 : ∀ vs : List Nat, (E vs).length ≤ 4 * vs.length
  | [] => by rw [E_nil]; simp
  | v :: vs => by
    have := E_len4 vs
    have := enc_le v
    rw [E_cons, List.length_append, List.length_cons]
    omega
/-- A part's text is small. -/
def Small1 (c : CompV) : Prop := c.text.length ≤ 16000
theorem piece_small {c : CompV} (h : Wh c) {k : Nat} (hs : sz c ≤ 4000) : Small1 (piece c k) := by
  rcases h.cases with ⟨g, _⟩ | ⟨g, _⟩ | ⟨g, _, _, gv⟩
  · have e : piece c k = ⟨c.kind, k, []⟩ := if_neg (by omega)
    rw [e]; exact Nat.zero_le _
  · have e : piece c k = ⟨c.kind, k, []⟩ := if_neg (by omega)
    rw [e]; exact Nat.zero_le _
  · have e : piece c k = ⟨2, 0, E ((cps c.text).take k)⟩ := if_pos g
    rw [e]
    show (E ((cps c.text).take k)).length ≤ 16000
    have := E_len4 ((cps c.text).take k)
    rw [List.length_take] at this
    rw [sz_two g] at hs
    omega
theorem small_tlen : ∀ (l : List CompV), (∀ x ∈ l, Small1 x) → tlen l ≤ l.length * 16000
  | [], _ => by simp [tlen]
  | c :: l, h => by
    have := small_tlen l fun x hx => h x (List.mem_cons_of_mem _ hx)
    have h1 : c.text.length ≤ 16000 := h c (by simp)
    rw [show tlen (c :: l) = c.text.length + tlen l by simp [tlen], List.length_cons]
    omega
theorem small_snoc {l : List CompV} {c : CompV} (h1 : ∀ x ∈ l, Small1 x) (h2 : Small1 c) : ∀ x ∈ l ++ [c], Small1 x := fun x hx => by
  rcases List.mem_append.1 hx with hx | hx
  · exact h1 x hx
  · rw [List.mem_singleton.1 hx]; exact h2
attribute [irreducible] wt
end Go.Proofs.Ytnadhpajelkngaa

/- Two edits as one, one behind another, and a row of them as one, as functions; what memory holds of them. No condition beyond those that each lemma states. -/
namespace Go.Proofs.Ytnadhpajelkngaa
theorem wh_n : ∀ (l : List CompV), (∀ c ∈ l, Wh c) → ∀ c ∈ l, 0 ≤ c.n ∧ c.n ≤ ((inS l + outS l : Nat) : Int)
  | [], _, c, hc => by cases hc
  | d :: l, hw, c, hc => by
    rw [inS_cons, outS_cons]
    rcases List.mem_cons.1 hc with rfl | hc
    · rcases (hw c (by simp)).cases with ⟨g, gn, _⟩ | ⟨g, gn, _⟩ | ⟨g, gn, _⟩
      · rw [in_one g]; omega
      · rw [in_three g]; omega
      · omega
    · have := wh_n l (fun x hx => hw x (List.mem_cons_of_mem _ hx)) c hc
      omega
theorem norm_held {o : List CompV} (hw : ∀ c ∈ o, Wh c) (hs : ∀ x ∈ o, Small1 x) (hl : o.length ≤ 8000) (hi : inS o ≤ 4000) (ho : outS o ≤ 4000) : Held1 (rNormal o) := by
  have htl := small_tlen o hs
  have hg : ∀ y ∈ o, y.Good := fun y hy => by
    have h1 := wh_n o hw y hy
    have h2 : y.text.length ≤ 16000 := hs y hy
    refine ⟨?_, ?_, ?_, by unfold maxLen; omega⟩
    · rcases (hw y hy).cases with ⟨g, _⟩ | ⟨g, _⟩ | ⟨g, _⟩ <;> (rw [g]; unfold Fit64; omega)
    · unfold Fit64; omega
    · rcases (hw y hy).cases with ⟨_, _, g⟩ | ⟨_, _, g⟩ | ⟨_, _, _, vs, g⟩
      · rw [g]; exact fun x hx => by cases hx
      · rw [g]; exact fun x hx => by cases hx
      · rw [← g.bytes]; exact E_lt g.may
  have h2 := norm_len o
  have h3 := tlen_norm o
  exact ⟨norm_good o hg (by omega), by omega, by omega⟩
theorem cmp_held {a b o : List CompV} (ha : rCheck a = 0) (hb : rCheck b = 0) (he : rOut a = rBase b) (h : Cmp a b o) (hs : ∀ x ∈ o, Small1 x) (hl : o.length ≤ 8000) : Held1 (rNormal o) ∧ CmpEd a b o := by
  have ka := ok_of ha
  have kb := ok_of hb
  have e1 := ka.out; have e2 := kb.base
  have c := h.ed ka.wh kb.wh (by omega)
  have i1 := c.ins; have i2 := c.outs; have i3 := ka.base1; have i4 := kb.out1
  exact ⟨norm_held c.wh hs hl (by omega) (by omega), c⟩
theorem ov_outs {f : Bool} {a b o : List CompV} (h : Ov f a b o) : (∀ x ∈ a, Wh x) → (∀ x ∈ b, Wh x) → inS a = inS b → outS o ≤ outS a + outS b := by
  induction h with
  | nil => intro _ _ _; rw [outS_nil]; omega
  | puts c a b o hk _ _ ih =>
    intro ha hb hn
    rw [inS_cons, in_two hk, Nat.zero_add] at hn
    have := ih (fun x hx => ha x (List.mem_cons_of_mem _ hx)) hb hn
    rw [outS_cons, outS_cons]; omega
  | pass a d b o _ hk _ ih =>
    intro ha hb hn
    rw [inS_cons, in_two hk, Nat.zero_add] at hn
    have := ih ha (fun x hx => hb x (List.mem_cons_of_mem _ hx)) hn
    have e : outN (⟨1, (sz d : Int), []⟩ : CompV) = sz d := by rw [out_one rfl]; rfl
    rw [outS_cons, outS_cons, e, out_two hk, sz_two hk]; omega
  | both c a d b o n h1 h2 hmin _ ih =>
    intro ha hb hn
    have k := chopped (a := a) (b := b) h1 h2 hmin ha hb
    have hia := k.ia; have hib := k.ib; have hoa := k.oa; have hob := k.ob
    have := ih k.wa k.wb (by omega)
    by_cases hd : d.kind = 1
    · rw [if_pos hd, List.singleton_append, outS_cons]; omega
    · rw [if_neg hd, List.nil_append]; omega
theorem ov_held {f : Bool} {a b o : List CompV} (ha : rCheck a = 0) (hb : rCheck b = 0) (he : rBase a = rBase b) (h : Ov f a b o) (hs : ∀ x ∈ o, Small1 x) (hl : o.length ≤ 8000) : Held1 (rNormal o) ∧ (∀ x ∈ o, Wh x) ∧ inS o = outS b := by
  have ka := ok_of ha
  have kb := ok_of hb
  have e1 := ka.base; have e2 := kb.base
  have c := h.wh ka.wh kb.wh (by omega)
  have i2 := ov_outs h ka.wh kb.wh (by omega)
  have i1 := c.2; have i3 := ka.out1; have i4 := kb.out1
  exact ⟨norm_held c.1 hs hl (by omega) (by omega), c⟩
end Go.Proofs.Ytnadhpajelkngaa

/- The parts that compose's walk makes, in plain mathematics. No condition beyond those that each lemma states. -/
namespace Go.Proofs.Ytnadhpajelkngaa

/-- A part as an edit has it: an Insert counts nothing. -/
def plain (c : CompV) : CompV := if c.kind = 2 then ⟨2, 0, c.text⟩ else c
theorem nStep_plain (s : NS) (c : CompV) : nStep s (plain c) = nStep s c := by
  unfold plain
  by_cases h : c.kind = 2
  · rw [if_pos h]
    unfold nStep
    rw [if_pos rfl, if_pos h]
  · rw [if_neg h]
theorem norm_plain (l : List CompV) : rNormal (l.map plain) = rNormal l := by
  have : ∀ (l : List CompV) (s : NS), (l.map plain).foldl nStep s = l.foldl nStep s := by
    intro l
    induction l with
    | nil => intro s; rfl
    | cons c l ih => intro s; rw [List.map_cons, List.foldl_cons, List.foldl_cons, nStep_plain, ih]
  rw [rNormal, rNormal, nRun, nRun, this]
theorem plain_text (c : CompV) : (plain c).text = c.text := by unfold plain; split <;> rfl
theorem tlen_plain (l : List CompV) : tlen (l.map plain) = tlen l := by
  unfold tlen
  congr 1
  rw [List.flatMap_map]
  congr 1
  funext c
  exact plain_text c

theorem wh_small {c : CompV} (h : Wh c) (hs : sz c ≤ 4000) : Small1 c := by
  have := piece_small h (k := sz c) hs
  rwa [piece_all h] at this
theorem chop_fair {c : CompV} {l : List CompV} {n : Nat} (hc : Wh c ∧ sz c ≤ 4000) (hl : ∀ x ∈ l, Wh x ∧ sz x ≤ 4000) (hn : n ≤ sz c) : ∀ x ∈ chop c l n, Wh x ∧ sz x ≤ 4000 := by
  unfold chop
  split
  · exact hl
  · intro x hx
    rcases List.mem_cons.1 hx with rfl | hx
    · have := cut_wh hc.1 (n := n) (by omega)
      exact ⟨this.1, by have := hc.2; omega⟩
    · exact hl x hx
theorem cmp_small {a b o : List CompV} (h : Cmp a b o) : (∀ x ∈ a, Wh x ∧ sz x ≤ 4000) → (∀ x ∈ b, Wh x ∧ sz x ≤ 4000) → (∀ x ∈ o, Wh x ∧ Small1 x) ∧ o.length ≤ a.length + b.length := by
  induction h with
  | nil => exact fun _ _ => ⟨fun x hx => (by cases hx), Nat.zero_le _⟩
  | gone c a b o hk _ ih =>
    intro ha hb
    obtain ⟨h1, h2⟩ := ih (fun x hx => ha x (List.mem_cons_of_mem _ hx)) hb
    have hc := ha c (by simp)
    refine ⟨fun x hx => ?_, by simp; omega⟩
    rcases List.mem_cons.1 hx with rfl | hx
    · exact ⟨hc.1, wh_small hc.1 hc.2⟩
    · exact h1 x hx
  | puts a d b o _ hk _ ih =>
    intro ha hb
    obtain ⟨h1, h2⟩ := ih ha (fun x hx => hb x (List.mem_cons_of_mem _ hx))
    have hd := hb d (by simp)
    refine ⟨fun x hx => ?_, by simp; omega⟩
    rcases List.mem_cons.1 hx with rfl | hx
    · exact ⟨hd.1, wh_small hd.1 hd.2⟩
    · exact h1 x hx
  | both c a d b o n h3 h2 hmin _ ih =>
    intro ha hb
    have hc := ha c (by simp)
    have hd := hb d (by simp)
    have hc0 := hc.1.sz; have hd0 := hd.1.sz
    obtain ⟨i1, i2⟩ := ih (chop_fair hc (fun x hx => ha x (List.mem_cons_of_mem _ hx)) (by omega)) (chop_fair hd (fun x hx => hb x (List.mem_cons_of_mem _ hx)) (by omega))
    have hlen : (chop c a n).length + (chop d b n).length ≤ a.length + b.length + 1 := by
      unfold chop
      by_cases e1 : n = sz c
      · rw [if_pos e1]
        split <;> simp <;> omega
      · rw [if_neg e1, if_pos (by omega)]
        simp; omega
    have pc := piece_wh hc.1 (n := n) (by omega) (by omega)
    have pd := piece_wh hd.1 (n := n) (by omega) (by omega)
    have sc := piece_small hc.1 (k := n) hc.2
    have sd := piece_small hd.1 (k := n) hd.2
    refine ⟨fun x hx => ?_, ?_⟩
    · rcases List.mem_append.1 hx with hx | hx
      · split at hx
        · rw [List.mem_singleton.1 hx]; exact ⟨pc.1, sc⟩
        · split at hx
          · rw [List.mem_singleton.1 hx]; exact ⟨pd.1, sd⟩
          · cases hx
      · exact i1 x hx
    · rw [List.length_append, List.length_cons, List.length_cons]
      have : (if d.kind = 1 then [piece c n] else if c.kind = 1 then [piece d n] else []).length ≤ 1 := by
        split
        · simp
        · split <;> simp
      omega

theorem cmp_gone {c : CompV} {a b q : List CompV} (h : Cmp (c :: a) b q) (hk : c.kind = 3) : ∃ r, q = c :: r ∧ Cmp a b r := by
  cases h with
  | gone _ _ _ o _ g => exact ⟨o, rfl, g⟩
  | puts _ _ _ _ g => exact absurd hk g
  | both _ _ _ _ _ _ g => exact absurd hk g
theorem cmp_end {a q : List CompV} (h : Cmp a [] q) (hk : kd a ≠ 3) : a = [] ∧ q = [] := by
  cases h with
  | nil => exact ⟨rfl, rfl⟩
  | gone _ _ _ _ g => exact absurd g hk
theorem cmp_puts {d : CompV} {a b q : List CompV} (h : Cmp a (d :: b) q) (hk : kd a ≠ 3) (hd : d.kind = 2) : ∃ r, q = d :: r ∧ Cmp a b r := by
  cases h with
  | gone _ _ _ _ g => exact absurd g hk
  | puts _ _ _ o _ _ g => exact ⟨o, rfl, g⟩
  | both _ _ _ _ _ _ _ g => exact absurd hd g
theorem cmp_both {d : CompV} {a b q : List CompV} (h : Cmp a (d :: b) q) (hk : kd a ≠ 3) (hd : d.kind ≠ 2) :
    ∃ c a' r, a = c :: a' ∧ q = (if d.kind = 1 then [piece c (min (sz c) (sz d))] else if c.kind = 1 then [piece d (min (sz c) (sz d))] else []) ++ r ∧ Cmp (chop c a' (min (sz c) (sz d))) (chop d b (min (sz c) (sz d))) r := by
  cases h with
  | gone _ _ _ _ g => exact absurd g hk
  | puts _ _ _ _ _ g => exact absurd g hd
  | both c a' _ _ o n _ _ hn g => subst hn; exact ⟨c, a', o, rfl, rfl, g⟩
end Go.Proofs.Ytnadhpajelkngaa
