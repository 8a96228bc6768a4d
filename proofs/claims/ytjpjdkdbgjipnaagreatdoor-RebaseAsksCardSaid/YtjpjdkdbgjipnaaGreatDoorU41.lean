/- The contract of law16.small: called with anything that was done it answers whether it may be looked at; what was there stays as it was. Condition: no slice and no text is longer than memory. (Merged of 6 texts.) -/
import Derived.Test.YtjpjdkdbgjipnaaGreatDoorU48
import Derived.Test.YtjpjdkdbgjipnaaGreatDoorU46
import Derived.Test.YtjpjdkdbgjipnaaGreatDoorU12
import Derived.Test.YtjpjdkdbgjipnaaGreatDoorU7
import Derived.Test.YtjpjdkdbgjipnaaGreatDoorU42
import Derived.Test.YtjpjdkdbgjipnaaGreatDoorU6
namespace Go.Proofs.YtjpjdkdbgjipnaaGreatDoor
open Go.RowKit Go.Deep
def yy96 (limit : Nat) (c : OneV) : List Nat := [c.k.name.length, yy27 limit c.k.ops, 3]
def yy218 (limit : Nat) (l : List OneV) : Nat := wts limit 0 (l.map (yy96 limit))
def smallO (l : List OneV) : Bool := decide (yy218 3000 l ≤ 3000)
def yy597 (A : Option Addr) (m c : Nat) (at_ n : Nat) (j : Nat) : Value := if j = 0 then .slice A m c else if j = 1 then .int .i64 (at_ : Int) else .int .i64 (n : Int)
def WalkAt (B g : Nat) (l : List CompV) (at_ n : Nat) (w : World) : Prop := ∃ A c, w.rowIs g 103 3 (yy597 A l.length c at_ n) ∧ yy8 w A l ∧ (0 < l.length → ∃ b off, A = some ⟨b, off, none⟩ ∧ b < B) ∧ B ≤ g
theorem WalkAt.lt {B g : Nat} {l : List CompV} {at_ n : Nat} {w : World} (h : WalkAt B g l at_ n w) : g < w.heap.size := by
 obtain ⟨_, _, h, _⟩ := h
 exact h.lt
theorem WalkAt.ge {B g : Nat} {l : List CompV} {at_ n : Nat} {w : World} (h : WalkAt B g l at_ n w) : B ≤ g := by
 obtain ⟨_, _, _, _, _, h⟩ := h
 exact h
theorem WalkAt.below {B g : Nat} {l : List CompV} {at_ n : Nat} {w w' : World} (h : WalkAt B g l at_ n w) (hb : Below w.heap.size w w') : WalkAt B g l at_ n w' := by
 obtain ⟨A, c, h1, h2, h3⟩ := h
 exact ⟨A, c, h1.of_block (hb.block g h1.lt), h2.below hb, h3⟩
def kindOf (l : List CompV) (at_ : Nat) : Int := match l[at_]? with | none => 0 | some c => c.kind
def yy155 (c : CompV) : Int := if c.kind = 2 then (loose c.text : Int) else c.n
theorem yy121 {g b : Nat} {w x : World} (h : w.heap.size ≤ x.heap.size) (hg : x.heap[g]? = w.heap[g]?) (hb : x.heap[b]? = w.heap[b]?) : (yy6 [g, b]).r w x :=
 ⟨h, fun k hk => by
  rcases List.mem_cons.1 hk with rfl | hk
  ·exact hg
  ·rw [List.mem_singleton.1 hk]; exact hb⟩
set_option maxRecDepth 100000 in
theorem yy358 (B g : Nat) (l : List CompV) (hl : l.length ≤ 1099511627776) (at_ n : Nat) (hat : at_ ≤ l.length) (w : World) (h : WalkAt B g l at_ n w) :
  Calls Tryz.prog 51 #[.pointer (some ⟨g, 0, none⟩)] w fun e w' => e = .returned (.int .i64 (kindOf l at_)) ∧ Below w.heap.size w w' := by
 obtain ⟨A, c, h1, h2, _⟩ := h
 have HC := xh h2
 have c0 : w.cell? ⟨g, 0, none⟩ = some (.slice A l.length c) := (h1.cell (i := 0) (by omega)).trans rfl
 have c1 : w.cell? ⟨g, 1, none⟩ = some (.int .i64 (at_ : Int)) := (h1.cell (i := 1) (by omega)).trans rfl
 clear h1 h2
 by_cases hlt : at_ < l.length
 ·obtain ⟨b, off, rfl, _⟩ := HC.out.form (by omega)
  obtain ⟨x0, _, _⟩ := HC.out.at_ hlt
  have HK : Hid (kindOf l at_ = l[at_].kind) := by show _ = _; rw [kindOf, List.getElem?_eq_getElem hlt]
  rw [HK.out]
  generalize l[at_].kind = kd at x0
  clear HK
  have e0 : ∀ e : ExtK (yy6 [g, b]) w.drew, e.val.cell? ⟨g, 0, none⟩ = some (.slice (some ⟨b, off, none⟩) l.length c) := fun e => (cell_of_block (e.property.2 g (by simp)) 0).trans c0
  have e1 : ∀ e : ExtK (yy6 [g, b]) w.drew, e.val.cell? ⟨g, 1, none⟩ = some (.int .i64 (at_ : Int)) := fun e => (cell_of_block (e.property.2 g (by simp)) 1).trans c1
  go_enter Tryz.func51, Tryz.ntmps51
  go_wp2_with fail
  refine yy13 (yy6 [g, b]) [(0, true), (1, true), (2, true), (3, true), (4, true), (5, true), (6, true), (7, true), (8, true), (9, true)] (by kernel_rfl) (by kernel_rfl) (fun _ _ d _ _ h => by cases d <;> exact h) ?_
  simp only [picked, xmc, xmn, xgs, xgz, xgd]
  repeat (refine yy29 (by rfl) (fun K hK => ?_); go_big_quiet_op; refine hK _ ?_; clear hK K)
  refine yy73 ?_
  clear e0 e1
  have e0 : ∀ e : ExtK (yy6 [g, b]) w.drew.drew, e.val.cell? ⟨g, 0, none⟩ = some (.slice (some ⟨b, off, none⟩) l.length c) := fun e => (cell_of_block (e.property.2 g (by simp)) 0).trans c0
  have e1 : ∀ e : ExtK (yy6 [g, b]) w.drew.drew, e.val.cell? ⟨g, 1, none⟩ = some (.int .i64 (at_ : Int)) := fun e => (cell_of_block (e.property.2 g (by simp)) 1).trans c1
  have e2 : ∀ e : ExtK (yy6 [g, b]) w.drew.drew, e.val.cell? ⟨b, off + at_ * 3, none⟩ = some (.int .i64 kd) := fun e => (cell_of_block (e.property.2 b (by simp)) _).trans x0
  go_wp2_with fail
  refine yy13 (yy6 [g, b]) [(0, true), (1, true), (2, true), (3, true), (4, true), (5, true), (6, true), (7, true), (8, true), (9, true), (10, true), (11, true)] (by kernel_rfl) (by kernel_rfl) (fun _ _ d _ _ h => by cases d <;> exact h) ?_
  simp only [picked, xmc, xmn, xgs, xgz, xgd]
  repeat (refine yy29 (by rfl) (fun K hK => ?_); go_big_quiet_op; refine hK _ ?_; clear hK K)
  refine yy73 ?_
  clear e0 e1 e2
  go_wp2
  go_ret
  exact ⟨rfl, (Below.refl w.heap.size w).drew.drew⟩
 ·have HK : Hid (kindOf l at_ = 0) := by show _ = _; rw [kindOf, List.getElem?_eq_none (by omega)]
  rw [HK.out]
  have e0 : ∀ e : ExtK (yy6 [g]) w.drew, e.val.cell? ⟨g, 0, none⟩ = some (.slice A l.length c) := fun e => (cell_of_block (e.property.2 g (by simp)) 0).trans c0
  have e1 : ∀ e : ExtK (yy6 [g]) w.drew, e.val.cell? ⟨g, 1, none⟩ = some (.int .i64 (at_ : Int)) := fun e => (cell_of_block (e.property.2 g (by simp)) 1).trans c1
  have hge : (l.length : Int) ≤ (at_ : Int) := by omega
  go_enter Tryz.func51, Tryz.ntmps51
  go_wp2_with fail
  refine yy13 (yy6 [g]) [(0, true), (1, true), (2, true), (3, true), (4, true), (5, true), (6, true), (7, true), (8, true), (9, true)] (by kernel_rfl) (by kernel_rfl) (fun _ _ d _ _ h => by cases d <;> exact h) ?_
  simp only [picked, xmc, xmn, xgs, xgz, xgd]
  repeat (refine yy29 (by rfl) (fun K hK => ?_); go_big_quiet_op; refine hK _ ?_; clear hK K)
  refine yy73 ?_
  clear e0 e1
  go_wp2
  go_ret
  exact ⟨rfl, (Below.refl w.heap.size w).drew⟩
set_option maxHeartbeats 1000000 in
set_option maxRecDepth 100000 in
theorem yy224 (B g : Nat) (l : List CompV) (hl : l.length ≤ 1099511627776) (at_ n : Nat) (hat : at_ < l.length) (hg : l[at_].Good) (ht : l[at_].text.length ≤ 1099511627776) (hv : l[at_].kind = 2 → ∃ vs, V l[at_].text vs) (hn : (n : Int) ≤ yy155 l[at_]) (w : World) (h : WalkAt B g l at_ n w) :
  Calls Tryz.prog 53 #[.pointer (some ⟨g, 0, none⟩)] w fun e w' => e = .returned (.int .i64 (yy155 l[at_] - n)) ∧ Below w.heap.size w w' := by
 obtain ⟨A, c, h1, h2, _⟩ := h
 have HC := xh h2
 have HGL := xh h1.lt
 have c0 : w.cell? ⟨g, 0, none⟩ = some (.slice A l.length c) := (h1.cell (i := 0) (by omega)).trans rfl
 have c1 : w.cell? ⟨g, 1, none⟩ = some (.int .i64 (at_ : Int)) := (h1.cell (i := 1) (by omega)).trans rfl
 have c2 : w.cell? ⟨g, 2, none⟩ = some (.int .i64 (n : Int)) := (h1.cell (i := 2) (by omega)).trans rfl
 clear h1 h2
 obtain ⟨b, off, rfl, hblt⟩ := HC.out.form (by omega)
 have HBL := xh hblt
 clear hblt
 obtain ⟨x0, x1, x2⟩ := HC.out.at_ hat
 generalize l[at_] = y at x0 x1 x2 hg ht hv hn
 obtain ⟨kd, m, tx⟩ := y
 simp only at x0 x1 x2 hg ht hv
 obtain ⟨R, HR⟩ : ∃ R : Int, Hid (yy155 ⟨kd, m, tx⟩ - (n : Int) = R) := ⟨_, xh rfl⟩
 rw [HR.out]
 have e0 : ∀ e : ExtK (yy6 [g, b]) w.drew, e.val.cell? ⟨g, 0, none⟩ = some (.slice (some ⟨b, off, none⟩) l.length c) := fun e => (cell_of_block (e.property.2 g (by simp)) 0).trans c0
 have e1 : ∀ e : ExtK (yy6 [g, b]) w.drew, e.val.cell? ⟨g, 1, none⟩ = some (.int .i64 (at_ : Int)) := fun e => (cell_of_block (e.property.2 g (by simp)) 1).trans c1
 have e2 : ∀ e : ExtK (yy6 [g, b]) w.drew, e.val.cell? ⟨b, off + at_ * 3, none⟩ = some (.int .i64 kd) := fun e => (cell_of_block (e.property.2 b (by simp)) _).trans x0
 have e3 : ∀ e : ExtK (yy6 [g, b]) w.drew, e.val.cell? ⟨b, off + at_ * 3 + 1, none⟩ = some (.int .i64 m) := fun e => (cell_of_block (e.property.2 b (by simp)) _).trans x1
 have e4 : ∀ e : ExtK (yy6 [g, b]) w.drew, e.val.cell? ⟨b, off + at_ * 3 + 2, none⟩ = some (.string (bstr tx)) := fun e => (cell_of_block (e.property.2 b (by simp)) _).trans x2
 go_enter Tryz.func53, Tryz.ntmps53
 go_wp2_with fail
 refine yy13 (yy6 [g, b]) [(0, true), (1, true), (2, true), (3, true), (4, true), (5, true), (6, true), (7, true), (8, true), (9, true), (10, false), (11, false)] (by kernel_rfl) (by kernel_rfl) (fun _ _ d _ _ h => by cases d <;> exact h) ?_
 simp only [picked, xmc, xmn, xgs, xgz, xgd]
 repeat (refine yy29 (by rfl) (fun K hK => ?_); go_big_quiet_op; refine hK _ ?_; clear hK K)
 clear e0 e1 e2 e3 e4
 refine yy77 (by rfl) (fun K hK => ?_)
 go_simp
 have hbA : Below w.heap.size w (w.alloc (Obj.cells #[.int .i64 0, .int .i64 0, .string { data := #[] }] 60)) := (Below.refl _ _).alloc (Nat.le_refl _) _
 have HBA := xh hbA
 refine hK _ _ (yy121 (by simp) (hbA.block g HGL.out) (hbA.block b HBL.out)) ?_
 clear hK K hbA
 refine yy77 (by rfl) (fun K hK => ?_)
 go_simp
 have hbB : Below w.heap.size w (w.alloc (Obj.cells #[.int .i64 kd, .int .i64 m, .string (bstr tx)] 60)) := (Below.refl _ _).alloc (Nat.le_refl _) _
 have HBB : Hid (Below w.heap.size w (w.alloc (Obj.cells #[.int .i64 kd, .int .i64 m, .string (bstr tx)] 60)).drew) := hbB.drew
 have hrow := cell_of_row (w.alloc (Obj.cells #[.int .i64 kd, .int .i64 m, .string (bstr tx)] 60)).drew w.heap.size
 have d0 : (w.alloc (Obj.cells #[.int .i64 kd, .int .i64 m, .string (bstr tx)] 60)).drew.cell? ⟨w.heap.size, 0, none⟩ = some (.int .i64 kd) := by rw [hrow _ _ _ _ (heap_alloc_new w _)]; rfl
 have d1 : (w.alloc (Obj.cells #[.int .i64 kd, .int .i64 m, .string (bstr tx)] 60)).drew.cell? ⟨w.heap.size, 1, none⟩ = some (.int .i64 m) := by rw [hrow _ _ _ _ (heap_alloc_new w _)]; rfl
 have d2 : (w.alloc (Obj.cells #[.int .i64 kd, .int .i64 m, .string (bstr tx)] 60)).drew.cell? ⟨w.heap.size, 2, none⟩ = some (.string (bstr tx)) := by rw [hrow _ _ _ _ (heap_alloc_new w _)]; rfl
 refine hK _ _ (yy121 (by simp) ((hbB.block g HGL.out).trans (HBA.out.block g HGL.out).symm) ((hbB.block b HBL.out).trans (HBA.out.block b HBL.out).symm)) ?_
 clear hK K hbB HBA hrow
 refine yy73 ?_
 have f2 := (HBB.out.cell (p := ⟨g, 2, none⟩) HGL.out).trans c2
 obtain ⟨s, HS⟩ : ∃ s, Hid (w.heap.size = s) := ⟨_, xh rfl⟩
 rw [HS.out] at d0 d1 d2 ⊢
 have HSL : Hid (s < (w.alloc (Obj.cells #[.int .i64 kd, .int .i64 m, .string (bstr tx)] 60)).drew.heap.size) := by show _ < _; rw [← HS.out]; simp
 generalize (w.alloc (Obj.cells #[.int .i64 kd, .int .i64 m, .string (bstr tx)] 60)).drew = w1 at d0 d1 d2 f2 HBB HSL ⊢
 by_cases h2 : kd = 2
 ·subst h2
  obtain ⟨vs, hvs⟩ := hv rfl
  have hz : yy155 ⟨2, m, tx⟩ = (loose tx : Int) := rfl
  rw [hz] at hn HR
  have GC := xh (fun w => yy350 hvs ht w)
  have hlv : vs.length = loose tx := hvs.loose.symm
  rw [hlv] at GC
  have hzl := yy102 tx
  obtain ⟨z, HZ⟩ : ∃ z, Hid (loose tx = z) := ⟨_, xh rfl⟩
  rw [HZ.out] at GC hn hzl HR
  clear hz hlv hvs hv x0 x1 x2 c0 c1 c2
  have e1 : ∀ e : ExtK (yy6 [g, s]) w1.drew, e.val.cell? ⟨s, 2, none⟩ = some (.string (bstr tx)) := fun e => (cell_of_block (e.property.2 s (by simp)) _).trans d2
  have e2 : ∀ e : ExtK (yy6 [g, s]) w1.drew, e.val.cell? ⟨g, 2, none⟩ = some (.int .i64 (n : Int)) := fun e => (cell_of_block (e.property.2 g (by simp)) _).trans f2
  go_wp2_with fail
  refine yy13 (yy6 [g, s]) [(0, true), (1, true), (3, true), (4, true), (5, true), (6, true), (2, false), (7, true), (8, true)] (by kernel_rfl) (by kernel_rfl) (fun _ _ d _ _ h => by cases d <;> exact h) ?_
  simp only [picked, xmc, xmn, xgs, xgz, xgd]
  repeat (refine yy29 (by rfl) (fun K hK => ?_); go_big_quiet_op; refine hK _ ?_; clear hK K)
  clear e1 e2
  refine yy77 (by rfl) (fun K hK => ?_)
  go_simp
  refine (GC.out _).mono ?_
  rintro e w2 ⟨rfl, hb2⟩
  have HB2 : Hid (Below w1.heap.size w1 w2) := (Below.refl w1.heap.size w1).drew.trans hb2
  clear hb2
  refine hK _ _ (yy121 HB2.out.size (HB2.out.block g (by have := HBB.out.size; have := HGL.out; omega)) (HB2.out.block s HSL.out)) ?_
  clear hK K
  repeat (refine yy29 (by rfl) (fun K hK => ?_); go_big_quiet_op; refine hK _ ?_; clear hK K)
  refine yy73 ?_
  go_wp2
  go_ret
  exact ⟨by rw [← HR.out]; rfl, HBB.out.trans (HB2.out.mono HBB.out.size)⟩
 ·have g2 : (kd == 2) = false := xn h2
  have hz : yy155 ⟨kd, m, tx⟩ = m := if_neg h2
  rw [hz] at hn HR
  obtain ⟨hm1, hm2⟩ : Fit64 m := hg.2.1
  have e1 : ∀ e : ExtK (yy6 [g, s]) w1.drew, e.val.cell? ⟨s, 1, none⟩ = some (.int .i64 m) := fun e => (cell_of_block (e.property.2 s (by simp)) _).trans d1
  have e2 : ∀ e : ExtK (yy6 [g, s]) w1.drew, e.val.cell? ⟨g, 2, none⟩ = some (.int .i64 (n : Int)) := fun e => (cell_of_block (e.property.2 g (by simp)) _).trans f2
  clear hz hv x0 x1 x2 c0 c1 c2 hg h2
  go_wp2_with fail
  refine yy13 (yy6 [g, s]) [(0, true), (1, true), (2, true), (3, true), (4, true), (5, true), (6, true), (7, true)] (by kernel_rfl) (by kernel_rfl) (fun _ _ d _ _ h => by cases d <;> exact h) ?_
  simp only [picked, xmc, xmn, xgs, xgz, xgd]
  repeat (refine yy29 (by rfl) (fun K hK => ?_); go_big_quiet_op; refine hK _ ?_; clear hK K)
  refine yy73 ?_
  clear e1 e2
  go_wp2
  go_ret
  exact ⟨by rw [← HR.out]; rfl, HBB.out.drew⟩
theorem yy225 {B k : Nat} {A : Option Addr} {l : List CompV} {w w' : World} (h2 : yy8 w A l) (h3 : 0 < l.length → ∃ b off, A = some ⟨b, off, none⟩ ∧ b < B) (ho : Only k w w') (hB : B ≤ k) : yy8 w' A l := by
 rcases h2 with h2 | ⟨b', off', e, hlt, hc⟩
 ·exact .inl h2
 ·by_cases h0 : 0 < l.length
  ·obtain ⟨b, off, hA, hb⟩ := h3 h0
   have hbb : b' = b := by rw [hA] at e; cases e; rfl
   exact .inr ⟨b', off', e, Nat.lt_of_lt_of_le hlt ho.size, fun j v hj => (cell_of_block (ho.block b' hlt (by omega)) _).trans (hc j v hj)⟩
  ·have : l = [] := List.eq_nil_of_length_eq_zero (by omega)
   subst this
   exact .inl rfl
theorem WalkAt.keep {B g k : Nat} {l : List CompV} {at_ n : Nat} {w w' : World} (h : WalkAt B g l at_ n w) (ho : Only k w w') (hk : k ≠ g) (hB : B ≤ k) : WalkAt B g l at_ n w' := by
 obtain ⟨A, c, h1, h2, h3, h4⟩ := h
 exact ⟨A, c, h1.of_block (ho.block g h1.lt (by omega)), yy225 h2 h3 ho hB, h3, h4⟩
theorem yy520 (w : World) (c : Array Value) (t : TypeId) : (w.alloc (.cells c t)).rowIs w.heap.size t c.size (fun i => (c[i]?).getD undef) := World.rowIs_alloc w c t _ (fun i hi => by simp [hi])
theorem yy411 {c : CompV} (h : Wh c) : yy155 c = (sz c : Int) := by
 rcases h.cases with ⟨g, gn, _⟩ | ⟨g, gn, _⟩ | ⟨g, _, _, gv⟩
 ·rw [yy155, if_neg (by omega), sz_not (by omega)]; omega
 ·rw [yy155, if_neg (by omega), sz_not (by omega)]; omega
 ·rw [yy155, if_pos g, sz_two g, yy264 gv]
structure Tk (B g ga gb : Nat) (l : List CompV) (at_ n : Nat) (f h : Nat → Value) (w0 w : World) : Prop where
 walk : WalkAt B g l at_ n w
 only : Only g w0 w
 ra : w.rowIs ga 60 3 f
 rb : w.rowIs gb 60 3 h
 gea : w0.heap.size ≤ ga
 geb : w0.heap.size ≤ gb
 ne : ga ≠ gb
 g0 : g < w0.heap.size
namespace Tk
variable {B g ga gb : Nat} {l : List CompV} {at_ n : Nat} {f h : Nat → Value} {w0 w w' : World}
theorem below (t : Tk B g ga gb l at_ n f h w0 w) (hb : Below w.heap.size w w') : Tk B g ga gb l at_ n f h w0 w' :=
 ⟨t.walk.below hb, t.only.trans (Only.of_below hb), t.ra.of_block (hb.block ga t.ra.lt), t.rb.of_block (hb.block gb t.rb.lt), t.gea, t.geb, t.ne, t.g0⟩
theorem setN (t : Tk B g ga gb l at_ n f h w0 w) (m : Nat) : Tk B g ga gb l at_ m f h w0 (w.setCell ⟨g, 2, none⟩ (.int .i64 (m : Int))) := by
 have hga : ga ≠ g := by have := t.gea; have := t.g0; omega
 have hgb : gb ≠ g := by have := t.geb; have := t.g0; omega
 obtain ⟨A, c, h1, h2, h3, h4⟩ := t.walk
 have ho := (Only.refl g w).set 2 (.int .i64 (m : Int))
 refine ⟨⟨A, c, (h1.set 2 _).congr ?_, ?_, h3, h4⟩, t.only.set 2 _, t.ra.setOther hga _, t.rb.setOther hgb _, t.gea, t.geb, t.ne, t.g0⟩
 ·intro i hi
  have : i = 0 ∨ i = 1 ∨ i = 2 := by omega
  rcases this with rfl | rfl | rfl <;> rfl
 ·exact yy225 h2 h3 ho h4
theorem setAt (t : Tk B g ga gb l at_ n f h w0 w) (m : Nat) : Tk B g ga gb l m n f h w0 (w.setCell ⟨g, 1, none⟩ (.int .i64 (m : Int))) := by
 have hga : ga ≠ g := by have := t.gea; have := t.g0; omega
 have hgb : gb ≠ g := by have := t.geb; have := t.g0; omega
 obtain ⟨A, c, h1, h2, h3, h4⟩ := t.walk
 have ho := (Only.refl g w).set 1 (.int .i64 (m : Int))
 refine ⟨⟨A, c, (h1.set 1 _).congr ?_, ?_, h3, h4⟩, t.only.set 1 _, t.ra.setOther hga _, t.rb.setOther hgb _, t.gea, t.geb, t.ne, t.g0⟩
 ·intro i hi
  have : i = 0 ∨ i = 1 ∨ i = 2 := by omega
  rcases this with rfl | rfl | rfl <;> rfl
 ·exact yy225 h2 h3 ho h4
theorem setA (t : Tk B g ga gb l at_ n f h w0 w) (i : Nat) (v : Value) : Tk B g ga gb l at_ n (fun j => if j = i then v else f j) h w0 (w.setCell ⟨ga, i, none⟩ v) := by
 have hg : ga ≠ g := by have := t.gea; have := t.g0; omega
 have hB : B ≤ ga := by have := t.gea; have := t.g0; have := t.walk.ge; omega
 exact ⟨t.walk.keep ((Only.refl ga w).set i v) hg hB, ⟨t.only.os, t.only.tape, t.only.output, by simpa [World.setCell] using t.only.size, fun k hk hkg => (Below.heap_setCell w ⟨ga, i, none⟩ v k (by show k ≠ ga; have := t.gea; omega)).trans (t.only.block k hk hkg)⟩, t.ra.set i v, t.rb.setOther (fun e => t.ne e.symm) v, t.gea, t.geb, t.ne, t.g0⟩
theorem setB (t : Tk B g ga gb l at_ n f h w0 w) (i : Nat) (v : Value) : Tk B g ga gb l at_ n f (fun j => if j = i then v else h j) w0 (w.setCell ⟨gb, i, none⟩ v) := by
 have hg : gb ≠ g := by have := t.geb; have := t.g0; omega
 have hB : B ≤ gb := by have := t.geb; have := t.g0; have := t.walk.ge; omega
 exact ⟨t.walk.keep ((Only.refl gb w).set i v) hg hB, ⟨t.only.os, t.only.tape, t.only.output, by simpa [World.setCell] using t.only.size, fun k hk hkg => (Below.heap_setCell w ⟨gb, i, none⟩ v k (by show k ≠ gb; have := t.geb; omega)).trans (t.only.block k hk hkg)⟩, t.ra.setOther t.ne v, t.rb.set i v, t.gea, t.geb, t.ne, t.g0⟩
theorem n_cell (t : Tk B g ga gb l at_ n f h w0 w) : w.cell? ⟨g, 2, none⟩ = some (.int .i64 (n : Int)) ∧ w.frozen? ⟨g, 2, none⟩ = false := by
 obtain ⟨A, c, h1, _⟩ := t.walk
 exact ⟨(h1.cell (i := 2) (by omega)).trans rfl, h1.frozen 2⟩
theorem at_cell (t : Tk B g ga gb l at_ n f h w0 w) : w.cell? ⟨g, 1, none⟩ = some (.int .i64 (at_ : Int)) ∧ w.frozen? ⟨g, 1, none⟩ = false := by
 obtain ⟨A, c, h1, _⟩ := t.walk
 exact ⟨(h1.cell (i := 1) (by omega)).trans rfl, h1.frozen 1⟩
end Tk
set_option maxHeartbeats 8000000 in
set_option maxRecDepth 100000 in
theorem yy359 (B g : Nat) (l : List CompV) (hl : l.length ≤ 1099511627776) (at_ n k : Nat) (hat : at_ < l.length) (hw : Wh l[at_]) (hg : l[at_].Good) (ht : l[at_].text.length ≤ 1099511627776) (hnk : n + k ≤ sz l[at_]) (hk0 : 0 < k) (hk : k ≤ 1099511627776) (hn0 : n ≤ 1099511627776) (w : World) (h : WalkAt B g l at_ n w) :
  Calls Tryz.prog 52 #[.pointer (some ⟨g, 0, none⟩), .int .i64 (k : Int)] w fun e w' =>
   e = .returned (.agg #[.int .i64 (piece (cut l[at_] n) k).kind, .int .i64 (piece (cut l[at_] n) k).n, .string (bstr (piece (cut l[at_] n) k).text)]) ∧
   WalkAt B g l (if n + k = sz l[at_] then at_ + 1 else at_) (if n + k = sz l[at_] then 0 else n + k) w' ∧ Only g w w' := by
 have HGL := xh h.lt
 have HPC := xh (yy576 hw n k)
 have hs := yy411 hw
 have GL := xh (fun m w (hm : m ≤ sz l[at_]) (h : WalkAt B g l at_ m w) => yy224 B g l hl at_ m hat hg ht (fun h2 => by rcases hw.cases with g | g | g <;> first | omega | exact g.2.2.2) (by rw [hs]; omega) w h)
 rw [hs] at GL
 have HV : Hid (l[at_].kind = 2 → ∃ vs, V l[at_].text vs) := fun h2 => by rcases hw.cases with g | g | g <;> first | omega | exact g.2.2.2
 have HS : Hid (l[at_].kind = 2 → sz l[at_] = (cps l[at_].text).length) := fun h2 => sz_two h2
 have HG0 : Hid (Fit64 l[at_].n ∧ Fit64 l[at_].kind) := ⟨hg.2.1, hg.1⟩
 have HW := xh h
 clear h hs
 obtain ⟨A, c, h1, h2, h3, _⟩ := HW.out
 have c0 : w.cell? ⟨g, 0, none⟩ = some (.slice A l.length c) := (h1.cell (i := 0) (by omega)).trans rfl
 have c1 : w.cell? ⟨g, 1, none⟩ = some (.int .i64 (at_ : Int)) := (h1.cell (i := 1) (by omega)).trans rfl
 have c2 : w.cell? ⟨g, 2, none⟩ = some (.int .i64 (n : Int)) := (h1.cell (i := 2) (by omega)).trans rfl
 have HC := xh h2
 clear h1 h2 h3
 obtain ⟨b, off, rfl, hblt⟩ := HC.out.form (by omega)
 have HBL := xh hblt
 clear hblt
 obtain ⟨x0, x1, x2⟩ := HC.out.at_ hat
 obtain ⟨S, HSZ⟩ : ∃ S, Hid (sz l[at_] = S) := ⟨_, xh rfl⟩
 rw [HSZ.out] at hnk GL HS ⊢
 generalize piece (cut l[at_] n) k = p at HPC ⊢
 clear hw hg
 generalize l[at_] = y at x0 x1 x2 ht HPC HV HS HG0
 obtain ⟨kd, m, tx⟩ := y
 simp only at x0 x1 x2 ht HPC HV HS HG0
 have d0 := (Below.refl w.heap.size w).alloc (Nat.le_refl _) (Obj.cells #[.int .i64 0, .int .i64 0, .string { data := #[] }] 60)
 have hra := yy520 w #[.int .i64 0, .int .i64 0, .string { data := #[] }] 60
 go_enter Tryz.func52, Tryz.ntmps52
 go_wp2_with fail
 obtain ⟨wA, HWA⟩ : ∃ wA, Hid (w.alloc (Obj.cells #[.int .i64 0, .int .i64 0, .string { data := #[] }] 60) = wA) := ⟨_, rfl⟩
 obtain ⟨ga, HGA⟩ : ∃ ga, Hid (w.heap.size = ga) := ⟨_, rfl⟩
 rw [HWA.out] at d0 hra ⊢
 rw [HGA.out] at hra ⊢
 have HD0 : Hid (Below w.heap.size w wA) := by show Below _ _ _; exact d0
 have HRA : Hid (wA.rowIs ga 60 3 _) := hra
 clear d0 hra
 have HWsz : Hid (wA.heap.size = ga + 1) := by show _ = _; rw [← HWA.out, ← HGA.out]; simp
 have a0 : ∀ p : Addr, p.block < w.heap.size → wA.cell? p = w.cell? p := fun p hp => HD0.out.cell hp
 rw [← a0 _ HGL.out] at c0 c1 c2
 rw [← a0 _ HBL.out] at x0 x1 x2
 clear a0
 have e0 : ∀ e : ExtK (yy6 [g, b]) wA.drew, e.val.cell? ⟨g, 0, none⟩ = some (.slice (some ⟨b, off, none⟩) l.length c) := fun e => (cell_of_block (e.property.2 g (by simp)) 0).trans c0
 have e1 : ∀ e : ExtK (yy6 [g, b]) wA.drew, e.val.cell? ⟨g, 1, none⟩ = some (.int .i64 (at_ : Int)) := fun e => (cell_of_block (e.property.2 g (by simp)) 1).trans c1
 have e2 : ∀ e : ExtK (yy6 [g, b]) wA.drew, e.val.cell? ⟨b, off + at_ * 3, none⟩ = some (.int .i64 kd) := fun e => (cell_of_block (e.property.2 b (by simp)) _).trans x0
 have e3 : ∀ e : ExtK (yy6 [g, b]) wA.drew, e.val.cell? ⟨b, off + at_ * 3 + 1, none⟩ = some (.int .i64 m) := fun e => (cell_of_block (e.property.2 b (by simp)) _).trans x1
 have e4 : ∀ e : ExtK (yy6 [g, b]) wA.drew, e.val.cell? ⟨b, off + at_ * 3 + 2, none⟩ = some (.string (bstr tx)) := fun e => (cell_of_block (e.property.2 b (by simp)) _).trans x2
 refine yy13 (yy6 [g, b]) [(0, true), (1, true), (2, true), (3, true), (4, true), (5, true), (6, true), (7, true), (8, true), (9, true), (10, false), (11, false)] (by kernel_rfl) (by kernel_rfl) (fun _ _ d _ _ h => by cases d <;> exact h) ?_
 simp only [picked, xmc, xmn, xgs, xgz, xgd]
 repeat (refine yy29 (by rfl) (fun K hK => ?_); go_big_quiet_op; refine hK _ ?_; clear hK K)
 clear e0 e1 e2 e3 e4 c0 c1 x0 x1 x2
 refine yy77 (by rfl) (fun K hK => ?_)
 go_simp
 have hbA : Below wA.heap.size wA (wA.alloc (Obj.cells #[.int .i64 0, .int .i64 0, .string { data := #[] }] 60)) := (Below.refl _ _).alloc (Nat.le_refl _) _
 have HGL2 : Hid (g < wA.heap.size) := by show g < _; rw [HWsz.out, ← HGA.out]; have := HGL.out; omega
 have HBL2 : Hid (b < wA.heap.size) := by show b < _; rw [HWsz.out, ← HGA.out]; have := HBL.out; omega
 refine hK _ _ (yy121 (by simp) (hbA.block g HGL2.out) (hbA.block b HBL2.out)) ?_
 clear hK K
 refine yy77 (by rfl) (fun K hK => ?_)
 go_simp
 have hbB : Below wA.heap.size wA (wA.alloc (Obj.cells #[.int .i64 kd, .int .i64 m, .string (bstr tx)] 60)) := (Below.refl _ _).alloc (Nat.le_refl _) _
 have HBB : Hid (Below wA.heap.size wA (wA.alloc (Obj.cells #[.int .i64 kd, .int .i64 m, .string (bstr tx)] 60)).drew) := hbB.drew
 have hrow := yy520 wA #[.int .i64 kd, .int .i64 m, .string (bstr tx)] 60
 refine hK _ _ (yy121 (by simp) ((hbB.block g HGL2.out).trans (hbA.block g HGL2.out).symm) ((hbB.block b HBL2.out).trans (hbA.block b HBL2.out).symm)) ?_
 clear hK K hbB hbA
 refine yy73 ?_
 have HRX : Hid ((wA.alloc (Obj.cells #[.int .i64 kd, .int .i64 m, .string (bstr tx)] 60)).drew.rowIs wA.heap.size 60 3 (fun i => ((#[.int .i64 kd, .int .i64 m, .string (bstr tx)] : Array Value)[i]?).getD undef)) := hrow
 clear hrow
 have HSZ1 : Hid ((wA.alloc (Obj.cells #[.int .i64 kd, .int .i64 m, .string (bstr tx)] 60)).drew.heap.size = ga + 2) := by show _ = _; simp [HWsz.out]
 rw [HWsz.out] at HRX ⊢
 generalize (wA.alloc (Obj.cells #[.int .i64 kd, .int .i64 m, .string (bstr tx)] 60)).drew = w1 at HBB HRX HSZ1 ⊢
 have HB1 : Hid (Below w.heap.size w w1) := HD0.out.trans (HBB.out.mono (by rw [HWsz.out, HGA.out]; omega))
 have HRA1 := xh (HRA.out.of_block (HBB.out.block ga (by rw [HWsz.out]; omega)))
 have y0 : w1.cell? ⟨ga + 1, 0, none⟩ = some (.int .i64 kd) := HRX.out.cell (i := 0) (by omega)
 have hw2 := yy520 w1 #[.int .i64 kd, .int .i64 (k : Int), .string { data := #[] }] 60
 obtain ⟨w2, HW2⟩ : ∃ w2, Hid (w1.alloc (Obj.cells #[.int .i64 kd, .int .i64 (k : Int), .string { data := #[] }] 60) = w2) := ⟨_, rfl⟩
 have HB2 : Hid (Below w1.heap.size w1 w2) := by show Below _ _ _; rw [← HW2.out]; exact (Below.refl _ _).alloc (Nat.le_refl _) _
 rw [HW2.out, HSZ1.out] at hw2
 have T2 : ∃ fa fb : Nat → Value, Hid (fa 0 = .int .i64 0 ∧ fa 1 = .int .i64 0 ∧ fa 2 = .string { data := #[] }) ∧ Hid (fb 0 = .int .i64 kd ∧ fb 1 = .int .i64 (k : Int) ∧ fb 2 = .string { data := #[] }) ∧ Hid (Tk B g ga (ga + 2) l at_ n fa fb w w2) :=
  ⟨_, _, ⟨rfl, rfl, rfl⟩, ⟨rfl, rfl, rfl⟩, ⟨HW.out.below (HB1.out.trans (HB2.out.mono HB1.out.size)), Only.of_below (HB1.out.trans (HB2.out.mono HB1.out.size)), HRA1.out.of_block (HB2.out.block ga (by rw [HSZ1.out]; omega)), hw2, by rw [HGA.out]; omega, by rw [HGA.out]; omega, by omega, HGL.out⟩⟩
 obtain ⟨fa, fb, HFA, HFB, T2⟩ := T2
 have z0 : w2.cell? ⟨ga + 1, 0, none⟩ = some (.int .i64 kd) := (HB2.out.cell (p := ⟨ga + 1, 0, none⟩) (by show ga + 1 < _; rw [HSZ1.out]; omega)).trans y0
 have z2 : w2.cell? ⟨ga + 1, 2, none⟩ = some (.string (bstr tx)) := (HB2.out.cell (p := ⟨ga + 1, 2, none⟩) (by show ga + 1 < _; rw [HSZ1.out]; omega)).trans (HRX.out.cell (i := 2) (by omega))
 rw [← HW2.out] at z0 z2
 have n0 := T2.out.n_cell.1
 have n1 := T2.out.n_cell.2
 rw [← HW2.out] at n0 n1
 clear hw2 c2
 have hnk2 : n + k ≤ 2199023255552 := by omega
 by_cases h2 : kd = 2
 ·obtain ⟨vs, hvs⟩ := HV.out h2
  have hS := HS.out h2
  have HP2 : Hid (p = ⟨2, 0, E (List.drop n (List.take (n + k) (cps tx)))⟩) := by show _ = _; rw [HPC.out, if_pos h2]
  clear HPC HV HS
  subst h2
  have hcps := cps_of hvs
  have GS := xh (fun w => yy351 hvs ht n (n + k) (by omega) (by rw [← hcps, ← hS]; exact hnk) w)
  rw [Int.natCast_add, ← hcps] at GS
  obtain ⟨tt, HTT⟩ : ∃ t, Hid (E (List.drop n (List.take (n + k) (cps tx))) = t) := ⟨_, xh rfl⟩
  rw [HTT.out] at GS HP2
  clear hvs hS hcps
  have e1 : ∀ e : ExtK (yy6 [ga + 1, g]) w2.drew, e.val.cell? ⟨ga + 1, 2, none⟩ = some (.string (bstr tx)) := fun e => (cell_of_block (e.property.2 (ga + 1) (by simp)) 2).trans (by rw [← HW2.out]; exact z2)
  have e2 : ∀ e : ExtK (yy6 [ga + 1, g]) w2.drew, e.val.cell? ⟨g, 2, none⟩ = some (.int .i64 (n : Int)) := fun e => (cell_of_block (e.property.2 g (by simp)) 2).trans (by rw [← HW2.out]; exact n0)
  clear z2
  go_wp2_with fail
  rw [HW2.out, HSZ1.out]
  clear n0 n1 z0
  refine yy13 (yy6 [ga + 1, g]) [(0, true), (1, true), (2, true), (3, true), (4, true), (5, true), (6, true), (7, true), (8, true), (9, true), (10, true), (11, true), (12, false), (13, false), (14, false)] (by kernel_rfl) (by kernel_rfl) (fun _ _ d _ _ h => by cases d <;> exact h) ?_
  simp only [picked, xmc, xmn, xgs, xgz, xgd]
  repeat (refine yy29 (by rfl) (fun K hK => ?_); go_big_quiet_op; refine hK _ ?_; clear hK K)
  clear e1 e2
  refine yy77 (by rfl) (fun K hK => ?_)
  go_simp
  refine (GS.out _).mono ?_
  rintro e w3 ⟨rfl, rfl⟩
  refine hK _ _ ⟨Nat.le_refl _, fun _ _ => rfl⟩ ?_
  clear hK K
  refine yy77 (by rfl) (fun K hK => ?_)
  go_simp
  refine hK _ _ ⟨Nat.le_refl _, fun _ _ => rfl⟩ ?_
  clear hK K
  have t0 := T2.out
  clear T2
  have k1 := t0.setB 0 (.int .i64 2)
  have b0 := (t0.rb.cell (i := 0) (by omega)).trans (show some (fb 0) = some (.int .i64 2) by rw [HFB.out.1])
  have f0 := t0.rb.frozen 0
  have k2 := k1.setB 1 (.int .i64 0)
  have b1 := (k1.rb.cell (i := 1) (by omega)).trans (show some (fb 1) = some (.int .i64 (k : Int)) by rw [HFB.out.2.1])
  have f1 := k1.rb.frozen 1
  have k3 := k2.setB 2 (.string (bstr tt))
  have b2 := (k2.rb.cell (i := 2) (by omega)).trans (show some (fb 2) = some (.string { data := #[] }) by rw [HFB.out.2.2])
  have f2 := k2.rb.frozen 2
  have T2 : ∃ fb : Nat → Value, Hid (fb 0 = .int .i64 2 ∧ fb 1 = .int .i64 0 ∧ fb 2 = .string (bstr tt)) ∧ Hid (Tk B g ga (ga + 2) l at_ n fa fb w _) :=
   ⟨_, ⟨rfl, rfl, rfl⟩, k3.below (Below.refl _ _).drew⟩
  have HO := xh (((((Only.refl (ga + 2) w2).set 0 (.int .i64 2)).set 1 (.int .i64 0)).set 2 (.string (bstr tt))).drew)
  have HGW : Hid (g < w2.heap.size) := by show g < _; have := t0.walk.lt; exact this
  have HXW : Hid (ga + 1 < w2.heap.size) := by show ga + 1 < _; have := t0.rb.lt; omega
  clear k1 k2 k3 t0 HFB
  obtain ⟨fb, HFB, T2⟩ := T2
  refine yy77 (by rfl) (fun K hK => ?_)
  go_simp
  clear b0 b1 b2 f0 f1 f2
  generalize World.drew _ = w3 at T2 HO ⊢
  refine hK _ _ (yy121 HO.out.size (HO.out.block (ga + 1) HXW.out (by omega)) (HO.out.block g HGW.out (by rw [← HGA.out]; have := HGL.out; omega))) ?_
  clear hK K HO HGW HXW
  refine yy73 ?_
  have n0 := T2.out.n_cell.1
  have n1 := T2.out.n_cell.2
  have z0 : True := trivial
  go_wp2_with fail
  have T3 := T2.out.setN (n + k)
  rw [Int.natCast_add] at T3
  refine (GL.out (n + k) _ hnk T3.walk).mono ?_
  rintro e w4 ⟨rfl, hb4⟩
  have T4 := xh (T3.below hb4)
  clear T3 hb4 n0 n1 z0
  by_cases hz : n + k = S
  ·have q0 : ((S : Int) - ((n + k : Nat) : Int) == 0) = true := by rw [hz]; simp
   have i0 := T4.out.at_cell.1
   have i1 := T4.out.at_cell.2
   have hat2 : at_ < 1099511627776 := by omega
   have T5 : Tk B g ga (ga + 2) l (at_ + 1) (n + k) fa fb w (w4.setCell ⟨g, 1, none⟩ (.int .i64 ((at_ : Int) + 1))) := by
    have := T4.out.setAt (at_ + 1)
    rw [Int.natCast_succ] at this
    exact this
   have j0 := T5.n_cell.1
   have j1 := T5.n_cell.2
   have T6 : Tk B g ga (ga + 2) l (at_ + 1) 0 fa fb w ((w4.setCell ⟨g, 1, none⟩ (.int .i64 ((at_ : Int) + 1))).setCell ⟨g, 2, none⟩ (.int .i64 0)) := T5.setN 0
   have b0 := T6.rb.cell (i := 0) (by omega)
   rw [HFB.out.1] at b0
   have b1 := T6.rb.cell (i := 1) (by omega)
   rw [HFB.out.2.1] at b1
   have b2 := T6.rb.cell (i := 2) (by omega)
   rw [HFB.out.2.2] at b2
   have k1 := T6.setA 0 (.int .i64 2)
   have x0 := (T6.ra.cell (i := 0) (by omega)).trans (show some (fa 0) = some (.int .i64 0) by rw [HFA.out.1])
   have f0 := T6.ra.frozen 0
   have k2 := k1.setA 1 (.int .i64 0)
   have x1 := (k1.ra.cell (i := 1) (by omega)).trans (show some (fa 1) = some (.int .i64 0) by rw [HFA.out.2.1])
   have f1 := k1.ra.frozen 1
   have k3 := k2.setA 2 (.string (bstr tt))
   have x2 := (k2.ra.cell (i := 2) (by omega)).trans (show some (fa 2) = some (.string { data := #[] }) by rw [HFA.out.2.2])
   have f2 := k2.ra.frozen 2
   have HK := xh k3
   clear k1 k2 k3
   go_wp2_with fail
   have hg := yy63 #[(.int .i64 2), (.int .i64 0), (.string (bstr tt))] HK.out.ra (fun i hi => by
    have hi' : i < 3 := hi
    have : i = 0 ∨ i = 1 ∨ i = 2 := by omega
    rcases this with rfl | rfl | rfl <;> rfl)
   (try simp only [Exit.inBlock, Exit.then])
   refine bodyPost_ret (results_cell_row rfl _ _ ga 60 #[(.int .i64 2), (.int .i64 0), (.string (bstr tt))] (0, 0) _ rfl hg Tryz.underlying60 rfl (by kernel_rfl)) rfl ?_
   exact ⟨by rw [HP2.out], by (try rw [if_pos hz]); (try rw [if_pos hz]); exact HK.out.walk, HK.out.only⟩
  ·have q0 : ((S : Int) - ((n + k : Nat) : Int) == 0) = false := xn (by omega)
   have T6 := T4.out
   have b0 := T6.rb.cell (i := 0) (by omega)
   rw [HFB.out.1] at b0
   have b1 := T6.rb.cell (i := 1) (by omega)
   rw [HFB.out.2.1] at b1
   have b2 := T6.rb.cell (i := 2) (by omega)
   rw [HFB.out.2.2] at b2
   have k1 := T6.setA 0 (.int .i64 2)
   have x0 := (T6.ra.cell (i := 0) (by omega)).trans (show some (fa 0) = some (.int .i64 0) by rw [HFA.out.1])
   have f0 := T6.ra.frozen 0
   have k2 := k1.setA 1 (.int .i64 0)
   have x1 := (k1.ra.cell (i := 1) (by omega)).trans (show some (fa 1) = some (.int .i64 0) by rw [HFA.out.2.1])
   have f1 := k1.ra.frozen 1
   have k3 := k2.setA 2 (.string (bstr tt))
   have x2 := (k2.ra.cell (i := 2) (by omega)).trans (show some (fa 2) = some (.string { data := #[] }) by rw [HFA.out.2.2])
   have f2 := k2.ra.frozen 2
   have HK := xh k3
   clear k1 k2 k3
   go_wp2_with fail
   have hg := yy63 #[(.int .i64 2), (.int .i64 0), (.string (bstr tt))] HK.out.ra (fun i hi => by
    have hi' : i < 3 := hi
    have : i = 0 ∨ i = 1 ∨ i = 2 := by omega
    rcases this with rfl | rfl | rfl <;> rfl)
   (try simp only [Exit.inBlock, Exit.then])
   refine bodyPost_ret (results_cell_row rfl _ _ ga 60 #[(.int .i64 2), (.int .i64 0), (.string (bstr tt))] (0, 0) _ rfl hg Tryz.underlying60 rfl (by kernel_rfl)) rfl ?_
   exact ⟨by rw [HP2.out], by (try rw [if_neg hz]); (try rw [if_neg hz]); exact HK.out.walk, HK.out.only⟩
 ·have g2 : (kd == 2) = false := xn h2
  clear z2
  go_wp2_with fail
  rw [HW2.out, HSZ1.out]
  have T3 := T2.out.setN (n + k)
  rw [Int.natCast_add] at T3
  refine (GL.out (n + k) _ hnk T3.walk).mono ?_
  rintro e w4 ⟨rfl, hb4⟩
  have T4 := xh (T3.below hb4)
  clear T3 hb4 n0 n1 z0
  by_cases hz : n + k = S
  ·have q0 : ((S : Int) - ((n + k : Nat) : Int) == 0) = true := by rw [hz]; simp
   have i0 := T4.out.at_cell.1
   have i1 := T4.out.at_cell.2
   have hat2 : at_ < 1099511627776 := by omega
   have T5 : Tk B g ga (ga + 2) l (at_ + 1) (n + k) fa fb w (w4.setCell ⟨g, 1, none⟩ (.int .i64 ((at_ : Int) + 1))) := by
    have := T4.out.setAt (at_ + 1)
    rw [Int.natCast_succ] at this
    exact this
   have j0 := T5.n_cell.1
   have j1 := T5.n_cell.2
   have T6 : Tk B g ga (ga + 2) l (at_ + 1) 0 fa fb w ((w4.setCell ⟨g, 1, none⟩ (.int .i64 ((at_ : Int) + 1))).setCell ⟨g, 2, none⟩ (.int .i64 0)) := T5.setN 0
   have b0 := T6.rb.cell (i := 0) (by omega)
   rw [HFB.out.1] at b0
   have b1 := T6.rb.cell (i := 1) (by omega)
   rw [HFB.out.2.1] at b1
   have b2 := T6.rb.cell (i := 2) (by omega)
   rw [HFB.out.2.2] at b2
   have k1 := T6.setA 0 (.int .i64 kd)
   have x0 := (T6.ra.cell (i := 0) (by omega)).trans (show some (fa 0) = some (.int .i64 0) by rw [HFA.out.1])
   have f0 := T6.ra.frozen 0
   have k2 := k1.setA 1 (.int .i64 (k : Int))
   have x1 := (k1.ra.cell (i := 1) (by omega)).trans (show some (fa 1) = some (.int .i64 0) by rw [HFA.out.2.1])
   have f1 := k1.ra.frozen 1
   have k3 := k2.setA 2 (.string { data := #[] })
   have x2 := (k2.ra.cell (i := 2) (by omega)).trans (show some (fa 2) = some (.string { data := #[] }) by rw [HFA.out.2.2])
   have f2 := k2.ra.frozen 2
   have HK := xh k3
   clear k1 k2 k3
   go_wp2_with fail
   have hg := yy63 #[(.int .i64 kd), (.int .i64 (k : Int)), (.string { data := #[] })] HK.out.ra (fun i hi => by
    have hi' : i < 3 := hi
    have : i = 0 ∨ i = 1 ∨ i = 2 := by omega
    rcases this with rfl | rfl | rfl <;> rfl)
   (try simp only [Exit.inBlock, Exit.then])
   refine bodyPost_ret (results_cell_row rfl _ _ ga 60 #[(.int .i64 kd), (.int .i64 (k : Int)), (.string { data := #[] })] (0, 0) _ rfl hg Tryz.underlying60 rfl (by kernel_rfl)) rfl ?_
   exact ⟨by rw [HPC.out, if_neg h2]; rfl, by (try rw [if_pos hz]); (try rw [if_pos hz]); exact HK.out.walk, HK.out.only⟩
  ·have q0 : ((S : Int) - ((n + k : Nat) : Int) == 0) = false := xn (by omega)
   have T6 := T4.out
   have b0 := T6.rb.cell (i := 0) (by omega)
   rw [HFB.out.1] at b0
   have b1 := T6.rb.cell (i := 1) (by omega)
   rw [HFB.out.2.1] at b1
   have b2 := T6.rb.cell (i := 2) (by omega)
   rw [HFB.out.2.2] at b2
   have k1 := T6.setA 0 (.int .i64 kd)
   have x0 := (T6.ra.cell (i := 0) (by omega)).trans (show some (fa 0) = some (.int .i64 0) by rw [HFA.out.1])
   have f0 := T6.ra.frozen 0
   have k2 := k1.setA 1 (.int .i64 (k : Int))
   have x1 := (k1.ra.cell (i := 1) (by omega)).trans (show some (fa 1) = some (.int .i64 0) by rw [HFA.out.2.1])
   have f1 := k1.ra.frozen 1
   have k3 := k2.setA 2 (.string { data := #[] })
   have x2 := (k2.ra.cell (i := 2) (by omega)).trans (show some (fa 2) = some (.string { data := #[] }) by rw [HFA.out.2.2])
   have f2 := k2.ra.frozen 2
   have HK := xh k3
   clear k1 k2 k3
   go_wp2_with fail
   have hg := yy63 #[(.int .i64 kd), (.int .i64 (k : Int)), (.string { data := #[] })] HK.out.ra (fun i hi => by
    have hi' : i < 3 := hi
    have : i = 0 ∨ i = 1 ∨ i = 2 := by omega
    rcases this with rfl | rfl | rfl <;> rfl)
   (try simp only [Exit.inBlock, Exit.then])
   refine bodyPost_ret (results_cell_row rfl _ _ ga 60 #[(.int .i64 kd), (.int .i64 (k : Int)), (.string { data := #[] })] (0, 0) _ rfl hg Tryz.underlying60 rfl (by kernel_rfl)) rfl ?_
   exact ⟨by rw [HPC.out, if_neg h2]; rfl, by (try rw [if_neg hz]); (try rw [if_neg hz]); exact HK.out.walk, HK.out.only⟩
def yy628 (c : NodeV) : List Nat := [c.name.length, c.text.length, 3]
def yy81 (limit : Nat) (l : List NodeV) : Nat := wts limit 0 (l.map yy628)
theorem yy291 (limit : Nat) (A : Option Addr) (cap : Nat) (w : World) :
  Calls Tryz.prog 20 #[.slice A 0 cap, .int .i64 (limit : Int)] w fun e w' => e = .returned (.int .i64 ((yy81 limit [] : Nat) : Int)) ∧ Below w.heap.size w w' := by
 have HR : Hid (0 = yy81 limit []) := by show 0 = yy81 limit []; rw [yy81, List.map_nil, yy125]
 go_enter Tryz.func20, Tryz.ntmps20
 go_wp2
 refine wp_loop_rounds 1 ?_
 rw [rounds_succ]
 go_wp2
 go_ret
 exact ⟨by rw [← HR.out]; rfl, Below.refl _ _⟩
set_option maxHeartbeats 1000000 in
set_option maxRecDepth 100000 in
theorem yy391 (b off cap : Nat) (l : List OneV) (hl : l.length ≤ maxLen) (hg : ∀ y ∈ l, y.Good) (w : World) (hc : OnesAt w (some ⟨b, off, none⟩) l) :
  Calls Tryz.prog 5 #[.slice (some ⟨b, off, none⟩) l.length cap] w fun e w' => e = .returned (.bool (smallO l)) ∧ Below w.heap.size w w' := by
 unfold maxLen at hl
 have HC := xh hc; clear hc
 have HG := xh hg; clear hg
 unfold smallO
 obtain ⟨T, HT⟩ : ∃ T, Hid (yy218 3000 l = T) := ⟨_, rfl⟩
 rw [HT.out]
 go_enter Tryz.func5, Tryz.ntmps5
 go_wp2
 go_loopw [3, 4] (fun t i wr => ∃ k m : Nat, k ≤ l.length ∧ i = .int .i64 k ∧ t = .int .i64 (m : Int) ∧ m ≤ 1099511627776 ∧ wts 3000 m ((l.map (yy96 3000)).drop k) = T ∧ Below w.heap.size w wr) (fun _ i _ => l.length - (intOf i).toNat)
 case atStart => exact ⟨0, 0, Nat.zero_le _, rfl, rfl, by omega, HT.out, Below.refl _ _⟩
 case round =>
  obtain ⟨k, m, hk, rfl, rfl, hm, he, hbel⟩ := hrel
  have HE := xh he; clear he
  have HB := xh hbel; clear hbel
  by_cases hlt : k < l.length
  ·have HW := xh (HE.out ▸ yy272 3000 m (l.map (yy96 3000)) k (by simpa using hlt) : T = _)
   have HX : Hid ((l.map (yy96 3000))[k]'(by simpa using hlt) = [l[k].k.name.length, yy27 3000 l[k].k.ops, 3]) := by show _ = _; rw [List.getElem_map]; rfl
   by_cases hml : m ≤ 3000
   ·have hmi : (m : Int) ≤ 3000 := by omega
    have HCA := xh ((HC.out.below HB.out).at_ hlt)
    have hgk := HG.out _ (List.getElem_mem hlt)
    have hx1 := hgk.2.2.1.2
    have hx2 : l[k].k.ops.length ≤ maxLen := Nat.le_trans hgk.2.2.2.2.1 hgk.2.2.2.2.2
    have HCM := xh (fun (wx : World) (hh : yy8 wx l[k].opsA l[k].k.ops) => yy183 3000 l[k].opsC hx2 hgk.2.2.2.1 wx hh)
    have HOP := xh (HC.out.2 _ (List.getElem_mem hlt))
    clear hgk
    unfold maxLen at hx1 hx2
    have hs1 := bstr_size l[k].k.name
    obtain ⟨S1, HS1⟩ : ∃ S, Hid (bstr l[k].k.name = S) := ⟨bstr l[k].k.name, xh rfl⟩
    obtain ⟨a, HA⟩ : ∃ a, Hid (l[k].k.name.length = a) := ⟨l[k].k.name.length, xh rfl⟩
    obtain ⟨c, HCC⟩ : ∃ a, Hid (yy27 3000 l[k].k.ops = a) := ⟨yy27 3000 l[k].k.ops, xh rfl⟩
    have hc40 : c ≤ 1099511627776 := by rw [← HCC.out]; exact yy343 3000 _ 0 (by omega)
    obtain ⟨O, HO⟩ : ∃ a, Hid (l[k].k.ops = a) := ⟨l[k].k.ops, xh rfl⟩
    obtain ⟨OA, HOA⟩ : ∃ a, Hid (l[k].opsA = a) := ⟨l[k].opsA, xh rfl⟩
    obtain ⟨OC, HOC⟩ : ∃ a, Hid (l[k].opsC = a) := ⟨l[k].opsC, xh rfl⟩
    rw [HS1.out, HO.out, HOA.out, HOC.out] at HCA
    rw [HS1.out] at hs1
    rw [HA.out] at hs1 hx1 HX
    rw [HCC.out] at HX HCM
    rw [HO.out, HOC.out, HOA.out] at HCM
    rw [HO.out, HOA.out] at HOP
    have hk2 : Hid (wr.cell? ⟨b, off + k * 8 + 7, none⟩ = some (.string S1)) := HCA.out.2.2.2.2.2.2.2
    have hk4 : Hid (wr.cell? ⟨b, off + k * 8 + 1, none⟩ = some (.slice OA O.length OC)) := HCA.out.2.1
    have HR : Hid (wts 3000 (capSum m [a, c, 3]) ((l.map (yy96 3000)).drop (k + 1)) = T) := by show _ = _; rw [HW.out, if_pos hml, HX.out]
    obtain ⟨r, HRR⟩ : ∃ r, Hid (capSum m [a, c, 3] = r) := ⟨_, rfl⟩
    have hr : r ≤ 1099511627776 := by rw [← HRR.out]; exact yy91 _ m hm
    rw [HRR.out] at HR
    have HN := xh (fun (wx : World) (t : TypeId) g hg' => yy217 wx t #[.int .i64 (a : Int), .int .i64 (c : Int), .int .i64 3] [a, c, 3] (fun j x hx => by
     match j, hx with
     | 0, hx => cases hx; rfl
     | 1, hx => cases hx; rfl
     | 2, hx => cases hx; rfl) g hg')
    have HS := xh (fun (wx : World) g (hn : NatsAt wx g 0 [a, c, 3]) => yy83 m (by omega) g 0 3 [a, c, 3] (by simp [maxLen]) (by simp; omega) wx hn)
    rw [HRR.out] at HS
    clear HW HRR HCA
    go_wp2_with fail
    refine wp_region_lit sc12 (by kernel_rfl) (by kernel_rfl) (fun _ _ d _ _ h => by cases d <;> exact h) ?_
    simp only [picked, sc12, xmc, xmn, xgs, xgz, xgd]
    have hq2 := fun e : Ext wr.drew => Ext.cell (w := wr.drew) hk2.out e
    have hq4 := fun e : Ext wr.drew => Ext.cell (w := wr.drew) hk4.out e
    repeat (first | (refine yy1 (by rfl) (fun K hK => ?_); go_big_quiet_op; refine hK _ ?_; clear hK K) | (refine yy3 (by rfl) ?_; simp only [Act.put, xsa, xsz, xss]))
    clear hq2 hq4
    refine yy11 (by rfl) (fun K hK => ?_)
    go_simp
    refine (HCM.out _ (yy8.drew (HOP.out.below HB.out))).mono ?_
    rintro e w1 ⟨rfl, hb1⟩
    have HB1 := xh hb1
    refine hK _ _ hb1 ?_
    clear hK K hb1
    repeat (first | (refine yy1 (by rfl) (fun K hK => ?_); go_big_quiet_op; refine hK _ ?_; clear hK K) | (refine yy3 (by rfl) ?_; simp only [Act.put, xsa, xsz, xss]))
    refine yy11 (by rfl) (fun K hK => ?_)
    go_simp
    refine hK _ _ ((Below.refl _ _).alloc (Nat.le_refl _) _) ?_
    clear hK K
    repeat (first | (refine yy1 (by rfl) (fun K hK => ?_); go_big_quiet_op; refine hK _ ?_; clear hK K) | (refine yy3 (by rfl) ?_; simp only [Act.put, xsa, xsz, xss]))
    refine yy11 (by rfl) (fun K hK => ?_)
    go_simp
    refine (HS.out _ _ (HN.out w1 _ _ rfl)).mono ?_
    rintro e w2 ⟨rfl, rfl⟩
    refine hK _ _ (Below.refl _ _) ?_
    clear hK K
    repeat (first | (refine yy1 (by rfl) (fun K hK => ?_); go_big_quiet_op; refine hK _ ?_; clear hK K) | (refine yy3 (by rfl) ?_; simp only [Act.put, xsa, xsz, xss]))
    refine yy25 ?_
    go_wp2
    go_roundw
    case rel => exact ⟨k + 1, r, by omega, by go_num, rfl, hr, HR.out, balloc (bstep HB.out.drew HB1.out) _⟩
    case measure => simp [intOf]; omega
   ·have HR : Hid (m = T) := by show _ = _; rw [HW.out, if_neg hml]
    have hml' : ¬ (m : Int) ≤ 3000 := by omega
    have hmd : decide (m ≤ 3000) = false := decide_eq_false hml
    go_wp2
    go_ret
    exact ⟨by rw [← HR.out]; simp [*] <;> omega, HB.out⟩
  ·have HR : Hid (m = T) := by
    show m = T
    rw [← HE.out, List.drop_eq_nil_of_le (by simp; omega), yy125]
   go_wp2
   go_ret
   exact ⟨by rw [← HR.out]; simp [*] <;> omega, HB.out⟩
theorem yy392 (A : Option Addr) (cap : Nat) (w : World) :
  Calls Tryz.prog 5 #[.slice A 0 cap] w fun e w' => e = .returned (.bool (smallO [])) ∧ Below w.heap.size w w' := by
 have HR : Hid (smallO [] = true) := by show smallO [] = true; unfold smallO; rw [yy218, List.map_nil, yy125]; rfl
 go_enter Tryz.func5, Tryz.ntmps5
 go_wp2
 refine wp_loop_rounds 1 ?_
 rw [rounds_succ]
 go_wp2
 go_ret
 exact ⟨by rw [HR.out]; rfl, Below.refl _ _⟩
theorem yy480 {A : Option Addr} {l : List OneV} (cap : Nat) (hl : l.length ≤ maxLen) (hg : ∀ y ∈ l, y.Good) (w : World) (h : OnesAt w A l) :
  Calls Tryz.prog 5 #[.slice A l.length cap] w fun e w' => e = .returned (.bool (smallO l)) ∧ Below w.heap.size w w' := by
 cases l with
 | nil => exact yy392 A cap w
 | cons c l =>
  obtain ⟨b, off, rfl, _⟩ := h.form (by simp)
  exact yy391 b off cap _ hl hg w h
end Go.Proofs.YtjpjdkdbgjipnaaGreatDoor
