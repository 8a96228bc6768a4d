/- The contract of the statements' own written, over the items that they are called with: the bytes of all of them, as the landed writer tells them. Condition: no more than 2^40 bytes in all. (Merged of 10 texts.) -/
import Derived.Test.YtkapfijokmajlaaQBase
import Derived.Laws.Cover3
import Derived.Test.YtkapfijokmajlaaQParts
import Derived.Test.YtkapfijokmajlaaQOut
import Derived.Test.YtkapfijokmajlaaQIn
import Derived.Test.YtkapfijokmajlaaQNum
import Derived.BigQuiet
import Derived.Test.YtkapfijokmajlaaQUtf
import Derived.Deep.Onto
/- The contract of slices.Clone of bytes: the same bytes, in new memory. Condition: no more than 2^46 bytes. -/
namespace Go.Proofs.Ytkapfijokmajlaa
open Go.RowKit Go.Deep

theorem eql_bytes_nil (A : Option Addr) (n c : Nat) (w : World) : (binOp .eql 25 (.slice A n c) (.slice none 0 0)).run Try.prog w = .ok (.bool A.isNone) w := by
  simp only [binOp]
  simp [run_equal_slice_nil w 25 5 A n c Try.underlying25]

set_option maxRecDepth 100000 in
theorem clone_any (A : Option Addr) (l : List Nat) (c : Nat) (hl : l.length ≤ 70368744177664) (w : World) (h : BytesAt w A l) :
    Calls Try.prog 53 #[.slice A l.length c] w fun e w' => (∃ v, e = .returned v ∧ w'.ownsRow w.heap.size 5 1 v l.length (u8s l)) ∧ Below w.heap.size w w' := by
  have H := Lib.hid h; clear h
  have hq := fun (A : Option Addr) (n : Nat) (w : World) => eql_bytes_nil A n c w
  cases A with
  | none =>
    have e : l = [] := by
      rcases H.out with h | ⟨_, _, h, _⟩
      · exact h
      · cases h
    subst e
    go_enter Try.func53, Try.ntmps53
    go_wp2
    go_ret
    exact ⟨⟨_, rfl, World.ownsRow_nil _ _ _ _⟩, Below.refl _ _⟩
  | some a =>
    go_enter Try.func53, Try.ntmps53
    go_wp2_with (at_builtin
                 refine wpList_append_bytes rfl (.tmp 5) (.tmp 6) rfl w.heap.size (.slice (some ⟨w.heap.size, 0, none⟩) 0 0) 0 [] rfl (World.ownsRow_lit w #[] 0 (Nat.le_refl _) (by simp [maxLen]) rfl) (some a) l c rfl (H.out.alloc _) (by omega) (by simp) ?_
                 intro v1 w1 hap1
                 have hb1 := hap1.below (balloc (Below.refl _ _) _) (by simp) (fun k hk => by simp [Value.ownBlock] at hk; omega)
                 have HO1 := Lib.hid hap1.1; have HBEL1 := Lib.hid hb1.1; clear hap1 hb1)
    go_ret
    have h1 := HO1.out
    rw [List.nil_append, Nat.zero_add] at h1
    exact ⟨⟨v1, rfl, h1⟩, HBEL1.out⟩
end Go.Proofs.Ytkapfijokmajlaa

/- The landed writer, codec.Writer: where it lies, which blocks are its own, what its calls leave alone; the contracts of all and put. Condition: no more than 2^46 bytes in all. -/
namespace Go.Proofs.Ytkapfijokmajlaa
open Go.RowKit Go.Deep

/-- What only what is one's own may be written; what is new is one's own, or nobody's. -/
structure Step (O O' : Nat → Prop) (w w' : World) : Prop where
  os : w'.os = w.os
  tape : w'.tape = w.tape
  output : w'.output = w.output
  size : w.heap.size ≤ w'.heap.size
  block : ∀ k, k < w.heap.size → ¬ O k → w'.heap[k]? = w.heap[k]?
  own : ∀ k, k < w.heap.size → O' k → O k
theorem Step.refl (O : Nat → Prop) (w : World) : Step O O w w := ⟨rfl, rfl, rfl, Nat.le_refl _, fun _ _ _ => rfl, fun _ _ h => h⟩
theorem Step.trans {O O' O'' : Nat → Prop} {a b c : World} (h : Step O O' a b) (k : Step O' O'' b c) : Step O O'' a c :=
  ⟨k.os.trans h.os, k.tape.trans h.tape, k.output.trans h.output, Nat.le_trans h.size k.size,
   fun i hi hn => (k.block i (Nat.lt_of_lt_of_le hi h.size) (fun ho => hn (h.own i hi ho))).trans (h.block i hi hn),
   fun i hi ho => h.own i hi (k.own i (Nat.lt_of_lt_of_le hi h.size) ho)⟩
theorem Step.of_below {O : Nat → Prop} {w w' : World} (h : Below w.heap.size w w') : Step O O w w' := ⟨h.os, h.tape, h.output, h.size, fun k hk _ => h.block k hk, fun _ _ h => h⟩
theorem Step.below {W : World} {O O' : Nat → Prop} {w w' : World} (h : Step O O' w w') (hb : Below W.heap.size W w) (hO : ∀ k, O k → W.heap.size ≤ k) : Below W.heap.size W w' :=
  hb.trans ⟨h.os, h.tape, h.output, h.size, fun k hk => h.block k (Nat.lt_of_lt_of_le hk hb.size) (fun ho => by have := hO k ho; omega)⟩

def wrCells (on : Option Addr) (n : Nat) (bad : Bool) (j : Nat) : Value := if j = 0 then .pointer on else if j = 1 then .int .i64 (n : Int) else .bool bad
/-- The block g of three cells holds the writer; O: its own blocks. -/
def WrAt (W : World) (g : Nat) (c : Ink) (O : Nat → Prop) (w : World) : Prop :=
  Below W.heap.size W w ∧ O g ∧ (∀ k, O k → W.heap.size ≤ k ∧ k < w.heap.size) ∧
  ((c.2 = true ∧ w.rowIs g 60 3 (wrCells none 0 true)) ∨
   (c = ([], false) ∧ w.rowIs g 60 3 (wrCells none 0 false)) ∨
   (c.2 = false ∧ ∃ s A k, O s ∧ g < s ∧ w.rowIs g 60 3 (wrCells (some ⟨s, 0, none⟩) c.1.length false) ∧ w.rowIs s 105 1 (fun _ => .slice A c.1.length k) ∧
     w.ownsRow (s + 1) 5 1 (.slice A c.1.length k) c.1.length (u8s c.1) ∧ (∀ a, A = some a → O a.block)))
theorem WrAt.below {W : World} {g : Nat} {c : Ink} {O : Nat → Prop} {w w' : World} (h : WrAt W g c O w) (hb : Below w.heap.size w w') : WrAt W g c O w' := by
  obtain ⟨h1, h2, h3, h4⟩ := h
  refine ⟨h1.trans (hb.mono h1.size), h2, fun k hk => ⟨(h3 k hk).1, Nat.lt_of_lt_of_le (h3 k hk).2 hb.size⟩, ?_⟩
  rcases h4 with ⟨hc, hr⟩ | ⟨hc, hr⟩ | ⟨hc, s, A, k, hs, hgs, hr, hr2, ho, hA⟩
  · exact .inl ⟨hc, hr.of_block (hb.block g hr.lt)⟩
  · exact .inr (.inl ⟨hc, hr.of_block (hb.block g hr.lt)⟩)
  · exact .inr (.inr ⟨hc, s, A, k, hs, hgs, hr.of_block (hb.block g hr.lt), hr2.of_block (hb.block s hr2.lt), own_below ho hb, hA⟩)
theorem WrAt.drew {W : World} {g : Nat} {c : Ink} {O : Nat → Prop} {w : World} (h : WrAt W g c O w) : WrAt W g c O w.drew := h.below (Below.refl _ _).drew
theorem WrAt.upto {W : World} {g : Nat} {c : Ink} {O : Nat → Prop} {w : World} (h : WrAt W g c O w) : Below W.heap.size W w := h.1
/-- A writer that has nothing. -/
theorem WrAt.start (w : World) : WrAt w w.heap.size ([], false) (fun k => k = w.heap.size) (w.alloc (.cells #[.pointer none, .int .i64 0, .bool false] 60)) := by
  refine ⟨(Below.refl _ _).alloc (Nat.le_refl _) _, rfl, fun k hk => by subst hk; simp, .inr (.inl ⟨rfl, ?_⟩)⟩
  exact World.rowIs_alloc w _ _ _ (fun i hi => by
    have : i = 0 ∨ i = 1 ∨ i = 2 := by simp at hi; omega
    rcases this with rfl | rfl | rfl <;> rfl)

set_option maxRecDepth 100000 in
theorem all_zero (w : World) (g : Nat) (hr : w.rowIs g 60 3 (wrCells none 0 false)) :
    Calls Try.prog 49 #[.pointer (some ⟨g, 0, none⟩)] w fun e w' => e = .returned (.slice none 0 0) ∧ w = w' := by
  have c0 := hr.cell (i := 0) (by omega)
  simp only [wrCells, if_true] at c0
  clear hr
  go_enter Try.func49, Try.ntmps49
  go_wp2
  go_ret
  exact ⟨rfl, rfl⟩

set_option maxHeartbeats 1000000 in
set_option maxRecDepth 100000 in
theorem all_some (w : World) (g s : Nat) (A : Option Addr) (k : Nat) (l : List Nat) (hl : l.length ≤ 70368744177664) (hr : w.rowIs g 60 3 (wrCells (some ⟨s, 0, none⟩) l.length false))
    (hr2 : w.rowIs s 105 1 (fun _ => .slice A l.length k)) (ho : w.ownsRow (s + 1) 5 1 (.slice A l.length k) l.length (u8s l)) :
    Calls Try.prog 49 #[.pointer (some ⟨g, 0, none⟩)] w fun e w' => (∃ v, e = .returned v ∧ w'.ownsRow w.heap.size 5 1 v l.length (u8s l)) ∧ Below w.heap.size w w' := by
  have c0 := hr.cell (i := 0) (by omega)
  have c1 := hr.cell (i := 1) (by omega)
  have d0 := hr2.cell (i := 0) (by omega)
  simp only [wrCells, if_true] at c0
  simp only [wrCells, Nat.one_ne_zero, if_false, if_true] at c1
  have hk : l.length ≤ k := by
    rcases ho.2 with ⟨h, hn⟩ | ⟨g', cap', cur, h', _, _, h1, _, _⟩
    · omega
    · injection h' with _ _ h'
      omega
  have HB := Lib.hid (BytesAt.of_own ho rfl)
  have HGL := Lib.hid (And.intro hr.lt hr2.lt)
  have SL := fun w => slice_high A l.length k l.length hk w
  have GCk := Lib.hid (fun w hh => clone_any (addrHigh A k) l k hl w hh)
  have e0 : ∀ e : ExtK (keepBlocks [g, s]) w.drew, e.val.cell? ⟨g, 0, none⟩ = some (.pointer (some ⟨s, 0, none⟩)) := fun e => (cell_of_block (e.property.2 g (by simp)) 0).trans c0
  have e1 : ∀ e : ExtK (keepBlocks [g, s]) w.drew, e.val.cell? ⟨g, 1, none⟩ = some (.int .i64 (l.length : Int)) := fun e => (cell_of_block (e.property.2 g (by simp)) 1).trans c1
  have e2 : ∀ e : ExtK (keepBlocks [g, s]) w.drew, e.val.cell? ⟨s, 0, none⟩ = some (.slice A l.length k) := fun e => (cell_of_block (e.property.2 s (by simp)) 0).trans d0
  clear hr hr2 ho
  go_enter Try.func49, Try.ntmps49
  go_wp2_with fail
  refine wp_region_held_lit (keepBlocks [g, s]) [(0, true), (1, true), (2, true), (3, true), (4, true), (5, true), (6, true), (7, true), (8, true), (9, true), (10, true), (11, true), (12, false), (13, true)] (by kernel_rfl) (by kernel_rfl) (fun _ _ d _ _ h => by cases d <;> exact h) ?_
  simp only [picked, List.map_cons, List.map_nil, List.getElem?_cons_succ, List.getElem?_cons_zero, Option.getD_some]
  repeat (first | (refine wpH_quiet (by rfl) (fun K hK => ?_); go_big_quiet_op; refine hK _ ?_; clear hK K) | (refine wpH_skip (by rfl) ?_; simp only [Act.put, List.setIfInBounds_toArray, List.set_cons_zero, List.set_cons_succ]))
  refine wpH_one (by rfl) (fun K hK => ?_)
  go_simp
  refine (GCk.out _ (by have := HB.out.drew.high k l.length; rwa [List.take_length] at this)).mono ?_
  rintro e w1 ⟨⟨v, rfl, ho1⟩, hb1⟩
  have HO1 := Lib.hid ho1
  have HB1 := Lib.hid hb1
  clear ho1 hb1 e0 e1 e2 c0 c1 d0
  refine hK _ _ (keep_two HB1.out.size (HB1.out.block g HGL.out.1) (HB1.out.block s HGL.out.2)) ?_
  clear hK K
  repeat (first | (refine wpH_quiet (by rfl) (fun K hK => ?_); go_big_quiet_op; refine hK _ ?_; clear hK K) | (refine wpH_skip (by rfl) ?_; simp only [Act.put, List.setIfInBounds_toArray, List.set_cons_zero, List.set_cons_succ]))
  refine wpH_nil ?_
  go_wp2
  go_ret
  exact ⟨⟨v, rfl, HO1.out⟩, (Below.refl _ w).drew.trans HB1.out⟩

/-- What put answers. -/
def PutEnd (W : World) (g : Nat) (c : Ink) (O : Nat → Prop) (w : World) (e : Ending) (w' : World) : Prop :=
  e = .returned (.pointer (some ⟨g, 0, none⟩)) ∧ ∃ O', WrAt W g c O' w' ∧ Step O O' w w'

set_option maxHeartbeats 1000000 in
set_option maxRecDepth 100000 in
theorem put_bad (w : World) (g : Nat) (hr : w.rowIs g 60 3 (wrCells none 0 true)) (may : Bool) (v : Value) :
    Calls Try.prog 50 #[.pointer (some ⟨g, 0, none⟩), .bool may, v] w fun e w' => e = .returned (.pointer (some ⟨g, 0, none⟩)) ∧ w = w' := by
  have c2 := hr.cell (i := 2) (by omega)
  have e2 : wrCells none 0 true 2 = .bool true := rfl
  rw [e2] at c2
  clear hr e2
  go_enter Try.func50, Try.ntmps50
  go_wp2
  refine wp_scope_fwd ?_
  go_wp2_with fail
  go_step3
  refine ⟨_, rfl, ?_⟩
  go_wp2
  rw [Exit.noGoto_ret]
  go_ret
  exact ⟨rfl, rfl⟩

set_option maxHeartbeats 1000000 in
set_option maxRecDepth 100000 in
theorem put_no (w : World) (g n : Nat) (on : Option Addr) (hr : w.rowIs g 60 3 (wrCells on n false)) (v : Value) :
    Calls Try.prog 50 #[.pointer (some ⟨g, 0, none⟩), .bool false, v] w fun e w' => e = .returned (.pointer (some ⟨g, 0, none⟩)) ∧ w'.rowIs g 60 3 (wrCells none 0 true) ∧ Only g w w' := by
  have c0 := hr.cell (i := 0) (by omega)
  have c2 := hr.cell (i := 2) (by omega)
  rw [show wrCells on n false 0 = .pointer on from rfl] at c0
  rw [show wrCells on n false 2 = .bool false from rfl] at c2
  have HR := Lib.hid hr
  have f0 := hr.frozen 0
  have r1 := hr.set 0 (.pointer none)
  have d1 := r1.cell (i := 1) (by omega)
  rw [show (if (1 : Nat) = 0 then Value.pointer none else wrCells on n false 1) = .int .i64 (n : Int) from rfl] at d1
  have g1 := r1.frozen 1
  have r2 := r1.set 1 (.int .i64 0)
  have d2 := r2.cell (i := 2) (by omega)
  rw [show (if (2 : Nat) = 1 then Value.int .i64 0 else if (2 : Nat) = 0 then Value.pointer none else wrCells on n false 2) = .bool false from rfl] at d2
  have g2 := r2.frozen 2
  clear hr r1 r2
  go_enter Try.func50, Try.ntmps50
  go_wp2
  refine wp_scope_fwd ?_
  go_wp2_with fail
  go_step3
  refine ⟨_, rfl, ?_⟩
  go_wp2
  rw [Exit.noGoto_ret]
  go_ret
  refine ⟨rfl, (((HR.out.set 0 _).set 1 _).set 2 _).congr fun i hi => ?_, (((Only.refl g w).set 0 _).set 1 _).set 2 _⟩
  have : i = 0 ∨ i = 1 ∨ i = 2 := by omega
  rcases this with rfl | rfl | rfl <;> rfl
end Go.Proofs.Ytkapfijokmajlaa

/- The landed writer, codec.Writer: put, where the writer is well. Condition: no more than 2^46 bytes in all. -/
namespace Go.Proofs.Ytkapfijokmajlaa
open Go.RowKit Go.Deep

/-- What stands behind put: the sheet s has the bytes l, the writer has all of them. -/
def PutMore (g s B : Nat) (v : Value) (l : List Nat) (w : World) (e : Ending) (w' : World) : Prop :=
  e = .returned (.pointer (some ⟨g, 0, none⟩)) ∧ ∃ A k, w'.rowIs g 60 3 (wrCells (some ⟨s, 0, none⟩) l.length false) ∧ w'.rowIs s 105 1 (fun _ => .slice A l.length k) ∧ w'.ownsRow (s + 1) 5 1 (.slice A l.length k) l.length (u8s l) ∧
  ((Value.slice A l.length k).ownBlock = v.ownBlock ∨ ∃ j, (Value.slice A l.length k).ownBlock = some j ∧ B ≤ j) ∧
  (w'.os = w.os ∧ w'.tape = w.tape ∧ w'.output = w.output ∧ w.heap.size ≤ w'.heap.size ∧ ∀ j, j < w.heap.size → j ≠ g → j ≠ s → some j ≠ v.ownBlock → w'.heap[j]? = w.heap[j]?)

set_option maxHeartbeats 2000000 in
set_option maxRecDepth 100000 in
theorem put_more (w : World) (g s : Nat) (hgs : g < s) (A0 : Option Addr) (k0 : Nat) (L : List Nat) (hr : w.rowIs g 60 3 (wrCells (some ⟨s, 0, none⟩) L.length false)) (hr2 : w.rowIs s 105 1 (fun _ => .slice A0 L.length k0))
    (ho : w.ownsRow (s + 1) 5 1 (.slice A0 L.length k0) L.length (u8s L)) (A : Option Addr) (l : List Nat) (cap : Nat) (hl : L.length + l.length ≤ 70368744177664) (hat : BytesAt w A l) :
    Calls Try.prog 50 #[.pointer (some ⟨g, 0, none⟩), .bool true, .slice A l.length cap] w (PutMore g s w.heap.size (.slice A0 L.length k0) (L ++ l) w) := by
  have c0 := hr.cell (i := 0) (by omega)
  have c1 := hr.cell (i := 1) (by omega)
  have c2 := hr.cell (i := 2) (by omega)
  have x0 := hr2.cell (i := 0) (by omega)
  rw [show wrCells (some ⟨s, 0, none⟩) L.length false 0 = .pointer (some ⟨s, 0, none⟩) from rfl] at c0
  rw [show wrCells (some ⟨s, 0, none⟩) L.length false 1 = .int .i64 (L.length : Int) from rfl] at c1
  rw [show wrCells (some ⟨s, 0, none⟩) L.length false 2 = .bool false from rfl] at c2
  have HZG := Lib.hid hr.drew.drew
  have HZS := Lib.hid hr2.drew.drew
  have HOZ : Hid (w.drew.drew.ownsRow (s + 1) 5 1 (.slice A0 L.length k0) L.length (u8s L)) := ho
  have HAZ := Lib.hid hat.drew.drew
  have HGS : Hid (g < s ∧ s < w.heap.size ∧ s + 1 ≤ w.drew.drew.heap.size) := ⟨hgs, hr2.lt, hr2.lt⟩
  have e0 : ∀ e : ExtK (keepBlocks [g]) w.drew.drew, e.val.cell? ⟨g, 0, none⟩ = some (.pointer (some ⟨s, 0, none⟩)) := fun e => (cell_of_block (e.property.2 g (by simp)) 0).trans c0
  have p0 : ∀ e : ExtK (keepBlocks [g, s]) w.drew, e.val.cell? ⟨g, 0, none⟩ = some (.pointer (some ⟨s, 0, none⟩)) := fun e => (cell_of_block (e.property.2 g (by simp)) 0).trans c0
  have p1 : ∀ e : ExtK (keepBlocks [g, s]) w.drew, e.val.cell? ⟨g, 1, none⟩ = some (.int .i64 (L.length : Int)) := fun e => (cell_of_block (e.property.2 g (by simp)) 1).trans c1
  have p2 : ∀ e : ExtK (keepBlocks [g, s]) w.drew, e.val.cell? ⟨s, 0, none⟩ = some (.slice A0 L.length k0) := fun e => (cell_of_block (e.property.2 s (by simp)) 0).trans x0
  have z0 : w.drew.drew.cell? ⟨s, 0, none⟩ = some (.slice A0 L.length k0) := x0
  clear hr hr2 ho hat hgs c0 c1 x0
  go_enter Try.func50, Try.ntmps50
  go_wp2
  refine wp_scope_fwd ?_
  go_wp2_with fail
  refine wp_region_held_lit (keepBlocks [g, s]) [(0, true), (1, true), (2, true), (3, true), (4, true), (5, true), (6, true), (7, true), (8, true), (9, true), (10, true), (11, true), (12, true), (13, true), (14, true), (15, true), (16, true), (17, true), (18, true), (19, true)] (by kernel_rfl) (by kernel_rfl) (fun _ _ d _ _ h => by cases d <;> exact h) ?_
  simp only [picked, List.map_cons, List.map_nil, List.getElem?_cons_succ, List.getElem?_cons_zero, Option.getD_some]
  repeat (first | (refine wpH_quiet (by rfl) (fun K hK => ?_); go_big_quiet_op; refine hK _ ?_; clear hK K) | (refine wpH_skip (by rfl) ?_; simp only [Act.put, List.setIfInBounds_toArray, List.set_cons_zero, List.set_cons_succ]))
  refine wpH_nil ?_
  clear p0 p1 p2
  go_wp2_with fail
  refine wp_region_held_lit (keepBlocks [g]) [(0, true), (1, true), (2, true), (3, true), (4, true), (5, true), (6, true), (7, true), (8, true), (9, true), (11, true), (10, false), (12, false), (13, true), (14, true), (15, false)] (by kernel_rfl) (by kernel_rfl) (fun _ _ d _ _ h => by cases d <;> exact h) ?_
  simp only [picked, List.map_cons, List.map_nil, List.getElem?_cons_succ, List.getElem?_cons_zero, Option.getD_some]
  repeat (first | (refine wpH_quiet (by rfl) (fun K hK => ?_); go_big_quiet_op; refine hK _ ?_; clear hK K) | (refine wpH_skip (by rfl) ?_; simp only [Act.put, List.setIfInBounds_toArray, List.set_cons_zero, List.set_cons_succ]))
  refine wpH_one (by rfl) (fun K hK => ?_)
  go_simp
  refine hK _ _ ((keepBlocks [g]).refl _) ?_
  clear hK K
  refine wpH_one (by rfl) (fun K hK => ?_)
  refine wp_append_bytes (.tmp 57) (.tmp 58) rfl (s + 1) (.slice A0 L.length k0) L.length L rfl HOZ.out A l cap rfl HAZ.out hl HGS.out.2.2 ?_
  intro v1 w1 hap
  obtain ⟨ho1, hg1, hb1⟩ := hap
  obtain ⟨n1, HN1⟩ : ∃ n1, Hid ((L ++ l).length = n1) := ⟨_, rfl⟩
  rw [← List.length_append, HN1.out] at ho1
  obtain ⟨A1, k1, rfl⟩ := own_slice ho1
  have HO1 := Lib.hid ho1; have HG1 := Lib.hid hg1; have HB1 := Lib.hid hb1
  have HN := Lib.hid (fun j (hj : (Value.slice A0 L.length k0).ownBlock = some j) => (HOZ.out.lt j hj).1)
  have HRG1 := Lib.hid (HZG.out.of_block (HG1.out.block g HZG.out.lt (fun e => by have := HN.out g e.symm; have := HGS.out.1; omega)))
  have HRS1 := Lib.hid (HZS.out.of_block (HG1.out.block s HZS.out.lt (fun e => by have := HN.out s e.symm; omega)))
  clear ho1 hg1 hb1 e0 z0
  have d0 := HRS1.out.cell (i := 0) (by omega)
  have fd0 := HRS1.out.frozen 0
  refine hK _ _ (keep_one HG1.out.size (HG1.out.block g HZG.out.lt (fun e => by have := HN.out g e.symm; have := HGS.out.1; omega))) ?_
  clear hK K
  simp only [Act.put, List.setIfInBounds_toArray, List.set_cons_zero, List.set_cons_succ]
  repeat (first | (refine wpH_quiet (by rfl) (fun K hK => ?_); go_big_quiet_op; refine hK _ ?_; clear hK K) | (refine wpH_skip (by rfl) ?_; simp only [Act.put, List.setIfInBounds_toArray, List.set_cons_zero, List.set_cons_succ]))
  refine wpH_one (by rfl) (fun K hK => ?_)
  go_simp
  have hgs := HGS.out.1
  refine hK _ _ (keep_one (by simp [World.setCell]) (Below.heap_setCell w1 ⟨s, 0, none⟩ _ g (by show g ≠ s; omega))) ?_
  clear hK K
  refine wpH_nil ?_
  have r1 := HRG1.out.setOther (a := ⟨s, 0, none⟩) (by show g ≠ s; omega) (.slice A1 n1 k1)
  have r2 := (HRS1.out.set 0 (.slice A1 n1 k1)).congr (g := fun _ => .slice A1 n1 k1) (fun i hi => by rw [if_pos (by omega)])
  have HR1 := Lib.hid r1; have HR2 := Lib.hid r2; clear r1 r2 d0 fd0
  have HO2 := Lib.hid (ownsRow_setCell_below HO1.out (show (⟨s, 0, none⟩ : Addr).block < s + 1 by show s < s + 1; omega) (.slice A1 n1 k1))
  obtain ⟨w2, HW2⟩ : ∃ w2, Hid (w1.setCell ⟨s, 0, none⟩ (.slice A1 n1 k1) = w2) := ⟨_, rfl⟩
  rw [HW2.out] at HR1 HR2 HO2 ⊢
  have c0 := HR1.out.cell (i := 0) (by omega)
  rw [show wrCells (some ⟨s, 0, none⟩) L.length false 0 = .pointer (some ⟨s, 0, none⟩) from rfl] at c0
  have c1 := HR1.out.cell (i := 1) (by omega)
  rw [show wrCells (some ⟨s, 0, none⟩) L.length false 1 = .int .i64 (L.length : Int) from rfl] at c1
  have d1 := HR2.out.cell (i := 0) (by omega)
  have f1 := HR1.out.frozen 1
  go_wp2
  go_step3
  go_wp2
  rw [fwd_ret]
  go_ret
  unfold PutMore
  rw [HN1.out]
  refine ⟨rfl, A1, k1, (HR1.out.set 1 _).congr fun i hi => ?_, HR2.out.setOther (a := ⟨g, 1, none⟩) (by show s ≠ g; omega) _, ownsRow_setCell_below HO2.out (by show g < s + 1; omega) _, ?_, ?_⟩
  · have : i = 0 ∨ i = 1 ∨ i = 2 := by omega
    rcases this with rfl | rfl | rfl <;> rfl
  · rcases HB1.out with e | e
    · exact .inl e
    · exact .inr ⟨_, e, Nat.le_refl _⟩
  · refine ⟨?_, ?_, ?_, ?_, fun j hj h1 h2 h3 => (Below.heap_setCell w2 ⟨g, 1, none⟩ _ j h1).trans ?_⟩
    · rw [← HW2.out]; exact HG1.out.os
    · rw [← HW2.out]; exact HG1.out.tape
    · rw [← HW2.out]; exact HG1.out.output
    · rw [← HW2.out]; simp only [World.setCell, Array.size_modify]; exact HG1.out.size
    · rw [← HW2.out]; exact (Below.heap_setCell w1 ⟨s, 0, none⟩ _ j h2).trans (HG1.out.block j hj h3)
end Go.Proofs.Ytkapfijokmajlaa

/- The landed writer, codec.Writer: put, where the writer is well and has nothing yet. Condition: no more than 2^46 bytes. -/
namespace Go.Proofs.Ytkapfijokmajlaa
open Go.RowKit Go.Deep

theorem BytesAt.setCell {w : World} {A : Option Addr} {l : List Nat} {g i : Nat} (h : BytesAt w A l) (hne : ∀ a, A = some a → a.block ≠ g) (v : Value) : BytesAt (w.setCell ⟨g, i, none⟩ v) A l := by
  rcases h with h | ⟨b, off, hA, hlt, hc⟩
  · exact .inl h
  · exact .inr ⟨b, off, hA, by simpa [World.setCell] using hlt, fun j c hj => (cell_of_block (Below.heap_setCell w ⟨g, i, none⟩ v b (hne _ hA)) (off + j)).trans (hc j c hj)⟩

set_option maxHeartbeats 2000000 in
set_option maxRecDepth 100000 in
theorem put_zero (w : World) (g s : Nat) (hs : s = w.heap.size) (hr : w.rowIs g 60 3 (wrCells none 0 false)) (A : Option Addr) (l : List Nat) (cap : Nat) (hl : 0 + l.length ≤ 70368744177664) (hat : BytesAt w A l) (hne : ∀ a, A = some a → a.block ≠ g) :
    Calls Try.prog 50 #[.pointer (some ⟨g, 0, none⟩), .bool true, .slice A l.length cap] w (PutMore g s w.heap.size (.slice none 0 0) l w) := by
  have c0 := hr.cell (i := 0) (by omega)
  have c2 := hr.cell (i := 2) (by omega)
  rw [show wrCells none 0 false 0 = .pointer none from rfl] at c0
  rw [show wrCells none 0 false 2 = .bool false from rfl] at c2
  have f0 := hr.frozen 0
  have p0 : ∀ e : ExtK (keepBlocks [g]) w.drew, e.val.cell? ⟨g, 0, none⟩ = some (.pointer none) := fun e => (cell_of_block (e.property.2 g (by simp)) 0).trans c0
  have GA := Lib.hid (all_zero w.drew g hr.drew)
  have HR := Lib.hid hr
  have HAT := Lib.hid hat
  have HNE := Lib.hid hne
  have hgl := hr.lt
  clear hr hat hne
  go_enter Try.func50, Try.ntmps50
  go_wp2
  refine wp_scope_fwd ?_
  go_wp2_with fail
  refine wp_region_held_lit (keepBlocks [g]) [(0, true), (1, true), (2, true), (3, true), (4, true), (5, true), (6, true), (7, true), (8, true), (9, true), (10, true), (11, true), (12, true), (13, true), (14, true), (15, true), (16, true), (17, true), (18, true), (19, true)] (by kernel_rfl) (by kernel_rfl) (fun _ _ d _ _ h => by cases d <;> exact h) ?_
  simp only [picked, List.map_cons, List.map_nil, List.getElem?_cons_succ, List.getElem?_cons_zero, Option.getD_some]
  repeat (first | (refine wpH_quiet (by rfl) (fun K hK => ?_); go_big_quiet_op; refine hK _ ?_; clear hK K) | (refine wpH_skip (by rfl) ?_; simp only [Act.put, List.setIfInBounds_toArray, List.set_cons_zero, List.set_cons_succ]))
  refine wpH_nil ?_
  clear p0
  go_wp2_with fail
  refine GA.out.mono ?_
  rintro e w' ⟨rfl, rfl⟩
  go_wp2_with fail
  obtain ⟨wz, HWZ⟩ : ∃ wz, Hid (((w.setCell ⟨g, 0, none⟩ (.pointer (some ⟨s, 0, none⟩))).alloc (.cells #[.slice none 0 0] 105)).drew = wz) := ⟨_, rfl⟩
  have HZG : Hid (wz.drew.rowIs g 60 3 (wrCells (some ⟨s, 0, none⟩) 0 false)) := by
    show wz.drew.rowIs g 60 3 (wrCells (some ⟨s, 0, none⟩) 0 false)
    rw [← HWZ.out]
    refine (((HR.out.set 0 (.pointer (some ⟨s, 0, none⟩))).congr fun i hi => ?_).alloc _).drew.drew
    have : i = 0 ∨ i = 1 ∨ i = 2 := by omega
    rcases this with rfl | rfl | rfl <;> rfl
  have HZS : Hid (wz.drew.rowIs s 105 1 (fun _ => .slice none 0 0)) := by
    show wz.drew.rowIs s 105 1 (fun _ => .slice none 0 0)
    rw [← HWZ.out]
    have h := World.rowIs_alloc (w.setCell ⟨g, 0, none⟩ (.pointer (some ⟨s, 0, none⟩))) #[.slice none 0 0] 105 (fun _ => .slice none 0 0) (fun i hi => by
      have : i = 0 := by simp at hi; omega
      subst this; rfl)
    rw [show (w.setCell ⟨g, 0, none⟩ (.pointer (some ⟨s, 0, none⟩))).heap.size = s by rw [hs]; simp [World.setCell]] at h
    exact h.drew.drew
  have HAZ : Hid (BytesAt wz.drew A l) := by
    show BytesAt wz.drew A l
    rw [← HWZ.out]
    exact ((HAT.out.setCell HNE.out _).alloc _).drew.drew
  have HZW : Hid (w.heap.size ≤ wz.drew.heap.size ∧ (wz.drew.os = w.os ∧ wz.drew.tape = w.tape ∧ wz.drew.output = w.output) ∧ ∀ j, j < w.heap.size → j ≠ g → wz.drew.heap[j]? = w.heap[j]?) := by
    show _ ∧ _ ∧ _
    rw [← HWZ.out]
    refine ⟨by simp [World.setCell], ⟨rfl, rfl, rfl⟩, fun j hj h1 => ?_⟩
    exact (blk_alloc_lt _ _ _ (by simpa [World.setCell] using hj)).trans (Below.heap_setCell w ⟨g, 0, none⟩ _ j h1)
  have HOZ : Hid (wz.drew.ownsRow (s + 1) 5 1 (.slice none 0 0) 0 (u8s [])) := World.ownsRow_nil _ _ _ _
  have HGS : Hid (g < s ∧ s < wz.drew.heap.size ∧ s + 1 ≤ wz.drew.heap.size) := ⟨by rw [hs]; exact hgl, HZS.out.lt, HZS.out.lt⟩
  have e0 : ∀ e : ExtK (keepBlocks [g]) wz.drew, e.val.cell? ⟨g, 0, none⟩ = some (.pointer (some ⟨s, 0, none⟩)) := fun e => (cell_of_block (e.property.2 g (by simp)) 0).trans ((HZG.out.cell (i := 0) (by omega)).trans rfl)
  have z0 : wz.drew.cell? ⟨s, 0, none⟩ = some (.slice none 0 0) := HZS.out.cell (i := 0) (by omega)
  rw [← hs, HWZ.out]
  have HS := Lib.hid hs
  clear c0 c2 f0 hs
  refine wp_region_held_lit (keepBlocks [g]) [(0, true), (1, true), (2, true), (3, true), (4, true), (5, true), (6, true), (7, true), (8, true), (9, true), (11, true), (10, false), (12, false), (13, true), (14, true), (15, false)] (by kernel_rfl) (by kernel_rfl) (fun _ _ d _ _ h => by cases d <;> exact h) ?_
  simp only [picked, List.map_cons, List.map_nil, List.getElem?_cons_succ, List.getElem?_cons_zero, Option.getD_some]
  repeat (first | (refine wpH_quiet (by rfl) (fun K hK => ?_); go_big_quiet_op; refine hK _ ?_; clear hK K) | (refine wpH_skip (by rfl) ?_; simp only [Act.put, List.setIfInBounds_toArray, List.set_cons_zero, List.set_cons_succ]))
  refine wpH_one (by rfl) (fun K hK => ?_)
  go_simp
  refine hK _ _ ((keepBlocks [g]).refl _) ?_
  clear hK K
  refine wpH_one (by rfl) (fun K hK => ?_)
  refine wp_append_bytes (.tmp 57) (.tmp 58) rfl (s + 1) (.slice none 0 0) 0 [] rfl HOZ.out A l cap rfl HAZ.out hl HGS.out.2.2 ?_
  intro v1 w1 hap
  obtain ⟨ho1, hg1, hb1⟩ := hap
  obtain ⟨n1, HN1⟩ : ∃ n1, Hid (l.length = n1) := ⟨_, rfl⟩
  rw [List.nil_append, Nat.zero_add, HN1.out] at ho1
  obtain ⟨A1, k1, rfl⟩ := own_slice ho1
  have HO1 := Lib.hid ho1; have HG1 := Lib.hid hg1; have HB1 := Lib.hid hb1
  have HN := Lib.hid (fun j (hj : (Value.slice none 0 0).ownBlock = some j) => (HOZ.out.lt j hj).1)
  have HRG1 := Lib.hid (HZG.out.of_block (HG1.out.block g HZG.out.lt (fun e => by have := HN.out g e.symm; have := HGS.out.1; omega)))
  have HRS1 := Lib.hid (HZS.out.of_block (HG1.out.block s HZS.out.lt (fun e => by have := HN.out s e.symm; omega)))
  clear ho1 hg1 hb1 e0 z0
  have d0 := HRS1.out.cell (i := 0) (by omega)
  have fd0 := HRS1.out.frozen 0
  refine hK _ _ (keep_one HG1.out.size (HG1.out.block g HZG.out.lt (fun e => by have := HN.out g e.symm; have := HGS.out.1; omega))) ?_
  clear hK K
  simp only [Act.put, List.setIfInBounds_toArray, List.set_cons_zero, List.set_cons_succ]
  repeat (first | (refine wpH_quiet (by rfl) (fun K hK => ?_); go_big_quiet_op; refine hK _ ?_; clear hK K) | (refine wpH_skip (by rfl) ?_; simp only [Act.put, List.setIfInBounds_toArray, List.set_cons_zero, List.set_cons_succ]))
  refine wpH_one (by rfl) (fun K hK => ?_)
  go_simp
  have hgs := HGS.out.1
  refine hK _ _ (keep_one (by simp [World.setCell]) (Below.heap_setCell w1 ⟨s, 0, none⟩ _ g (by show g ≠ s; omega))) ?_
  clear hK K
  refine wpH_nil ?_
  have r1 := HRG1.out.setOther (a := ⟨s, 0, none⟩) (by show g ≠ s; omega) (.slice A1 n1 k1)
  have r2 := (HRS1.out.set 0 (.slice A1 n1 k1)).congr (g := fun _ => .slice A1 n1 k1) (fun i hi => by rw [if_pos (by omega)])
  have HR1 := Lib.hid r1; have HR2 := Lib.hid r2; clear r1 r2 d0 fd0
  have HO2 := Lib.hid (ownsRow_setCell_below HO1.out (show (⟨s, 0, none⟩ : Addr).block < s + 1 by show s < s + 1; omega) (.slice A1 n1 k1))
  obtain ⟨w2, HW2⟩ : ∃ w2, Hid (w1.setCell ⟨s, 0, none⟩ (.slice A1 n1 k1) = w2) := ⟨_, rfl⟩
  rw [HW2.out] at HR1 HR2 HO2 ⊢
  have c0 := HR1.out.cell (i := 0) (by omega)
  rw [show wrCells (some ⟨s, 0, none⟩) 0 false 0 = .pointer (some ⟨s, 0, none⟩) from rfl] at c0
  have c1 := HR1.out.cell (i := 1) (by omega)
  rw [show wrCells (some ⟨s, 0, none⟩) 0 false 1 = .int .i64 (0 : Int) from rfl] at c1
  have d1 := HR2.out.cell (i := 0) (by omega)
  have f1 := HR1.out.frozen 1
  go_wp2
  go_step3
  go_wp2
  rw [fwd_ret]
  go_ret
  unfold PutMore
  rw [HN1.out]
  refine ⟨rfl, A1, k1, (HR1.out.set 1 _).congr fun i hi => ?_, HR2.out.setOther (a := ⟨g, 1, none⟩) (by show s ≠ g; omega) _, ownsRow_setCell_below HO2.out (by show g < s + 1; omega) _, ?_, ?_⟩
  · have : i = 0 ∨ i = 1 ∨ i = 2 := by omega
    rcases this with rfl | rfl | rfl <;> rfl
  · rcases HB1.out with e | e
    · exact .inl e
    · exact .inr ⟨_, e, HZW.out.1⟩
  · refine ⟨?_, ?_, ?_, ?_, fun j hj h1 h2 h3 => (Below.heap_setCell w2 ⟨g, 1, none⟩ _ j h1).trans ?_⟩
    · rw [← HW2.out]; exact HG1.out.os.trans HZW.out.2.1.1
    · rw [← HW2.out]; exact HG1.out.tape.trans HZW.out.2.1.2.1
    · rw [← HW2.out]; exact HG1.out.output.trans HZW.out.2.1.2.2
    · rw [← HW2.out]; simp only [World.setCell, Array.size_modify]; exact Nat.le_trans HZW.out.1 HG1.out.size
    · rw [← HW2.out]; exact (Below.heap_setCell w1 ⟨s, 0, none⟩ _ j h2).trans ((HG1.out.block j (Nat.lt_of_lt_of_le hj HZW.out.1) h3).trans (HZW.out.2.2 j hj h1))
end Go.Proofs.Ytkapfijokmajlaa

/- The landed writer, codec.Writer: the contracts of put, Num, Text, Flag, Done. Condition: no more than 2^46 bytes in all. -/
namespace Go.Proofs.Ytkapfijokmajlaa
open Go.RowKit Go.Deep

theorem Step.of_only {O : Nat → Prop} {g : Nat} {w w' : World} (h : Only g w w') (hg : O g) : Step O O w w' :=
  ⟨h.os, h.tape, h.output, h.size, fun k hk hn => h.block k hk (fun e => hn (by rw [e]; exact hg)), fun _ _ h => h⟩
theorem WrAt.bad {W : World} {g : Nat} {c c' : Ink} {O : Nat → Prop} {w w' : World} (h : WrAt W g c O w) (hc : c'.2 = true) (hr : w'.rowIs g 60 3 (wrCells none 0 true)) (ho : Only g w w') : WrAt W g c' O w' ∧ Step O O w w' := by
  obtain ⟨h1, h2, h3, _⟩ := h
  have hs := Step.of_only ho h2
  exact ⟨⟨hs.below h1 (fun k hk => (h3 k hk).1), h2, fun k hk => ⟨(h3 k hk).1, Nat.lt_of_lt_of_le (h3 k hk).2 ho.size⟩, .inl ⟨hc, hr⟩⟩, hs⟩
theorem WrAt.more {W : World} {g s : Nat} {l : List Nat} {c : Ink} {O : Nat → Prop} {w w' : World} {v : Value} {e : Ending} (h : WrAt W g c O w) (hW : W.heap.size ≤ s) (hgs : g < s) (hs : O s ∨ w.heap.size ≤ s) (hv : ∀ k, v.ownBlock = some k → O k)
    (hp : PutMore g s w.heap.size v l w e w') : PutEnd W g (l, false) O w e w' := by
  obtain ⟨h1, h2, h3, _⟩ := h
  obtain ⟨he, A, k, hr, hr2, ho, hb, q1, q2, q3, q4, q5⟩ := hp
  have hown : ∀ j, (Value.slice A l.length k).ownBlock = some j → O j ∨ w.heap.size ≤ j := by
    intro j hj
    rcases hb with hb | ⟨i, hi, hB⟩
    · exact .inl (hv j (hb ▸ hj))
    · rw [hi] at hj; injection hj with hj; exact .inr (by omega)
  have hst : Step O (fun j => O j ∨ j = s ∨ (Value.slice A l.length k).ownBlock = some j) w w' := by
    refine ⟨q1, q2, q3, q4, fun j hj hn => ?_, fun j hj ho' => ?_⟩
    · refine q5 j hj (fun e => hn (by rw [e]; exact h2)) (fun e => ?_) (fun e => hn (hv j e.symm))
      subst e
      rcases hs with hs | hs
      · exact hn hs
      · omega
    · rcases ho' with ho' | rfl | ho'
      · exact ho'
      · rcases hs with hs | hs
        · exact hs
        · omega
      · rcases hown j ho' with hh | hh
        · exact hh
        · omega
  refine ⟨he, _, ⟨hst.below h1 (fun k hk => (h3 k hk).1), .inl h2, fun j hj => ?_, .inr (.inr ⟨rfl, s, A, k, .inr (.inl rfl), hgs, hr, hr2, ho, fun a ha => .inr (.inr (by rw [ha]; rfl))⟩)⟩, hst⟩
  rcases hj with hj | rfl | hj
  · exact ⟨(h3 j hj).1, Nat.lt_of_lt_of_le (h3 j hj).2 q4⟩
  · exact ⟨hW, hr2.lt⟩
  · have := ho.lt j hj
    exact ⟨by omega, this.2⟩

theorem put_any (W : World) (g : Nat) (c : Ink) (O : Nat → Prop) (A : Option Addr) (l : List Nat) (cap : Nat) (may : Bool) (hl : c.1.length + l.length ≤ 70368744177664) (w : World) (hat : BytesAt w A l) (hne : ∀ a, A = some a → ¬ O a.block) (h : WrAt W g c O w) :
    Calls Try.prog 50 #[.pointer (some ⟨g, 0, none⟩), .bool may, .slice A l.length cap] w (PutEnd W g (ink c (l, !may)) O w) := by
  have h' := h
  obtain ⟨h1, h2, h3, h4⟩ := h
  rcases h4 with ⟨hc, hr⟩ | ⟨hc, hr⟩ | ⟨hc, s, A0, k, hs, hgs, hr, hr2, ho, hA⟩
  · refine (put_bad w g hr may _).mono ?_
    rintro e w' ⟨rfl, rfl⟩
    obtain ⟨q1, q2⟩ := h'.bad (c' := ink c (l, !may)) (by simp [ink, hc]) hr (Only.refl g w)
    exact ⟨rfl, O, q1, q2⟩
  · cases may
    · refine (put_no w g 0 none hr _).mono ?_
      rintro e w' ⟨rfl, hr', ho'⟩
      obtain ⟨q1, q2⟩ := h'.bad (c' := ink c (l, !false)) (by simp [ink]) hr' ho'
      exact ⟨rfl, O, q1, q2⟩
    · refine (put_zero w g w.heap.size rfl hr A l cap (by omega) hat (fun a ha e => hne a ha (by rw [e]; exact h2))).mono ?_
      intro e w' hp
      have := h'.more h1.size hr.lt (.inr (Nat.le_refl _)) (fun k hk => by simp [Value.ownBlock] at hk) hp
      rw [hc]
      simpa [ink] using this
  · cases may
    · refine (put_no w g _ _ hr _).mono ?_
      rintro e w' ⟨rfl, hr', ho'⟩
      obtain ⟨q1, q2⟩ := h'.bad (c' := ink c (l, !false)) (by simp [ink]) hr' ho'
      exact ⟨rfl, O, q1, q2⟩
    · refine (put_more w g s hgs A0 k c.1 hr hr2 ho A l cap hl hat).mono ?_
      intro e w' hp
      have := h'.more (h3 s hs).1 hgs (.inl hs) (fun k hk => by
        cases A0 with
        | none => simp [Value.ownBlock] at hk
        | some a => simp only [Value.ownBlock, Option.some.injEq] at hk; rw [← hk]; exact hA a rfl) hp
      have e2 : ink c (l, !true) = (c.1 ++ l, false) := by simp [ink, hc]
      rw [e2]
      exact this

/-- A later call. -/
theorem PutEnd.step {W : World} {g : Nat} {c : Ink} {O O' : Nat → Prop} {w w1 : World} {e : Ending} {w' : World} (h : PutEnd W g c O' w1 e w') (hs : Step O O' w w1) : PutEnd W g c O w e w' := by
  obtain ⟨he, O2, hw, hst⟩ := h
  exact ⟨he, O2, hw, hs.trans hst⟩

set_option maxRecDepth 100000 in
theorem wrNum_any (W : World) (g : Nat) (c : Ink) (O : Nat → Prop) (n : Int) (hl : c.1.length + 6 ≤ 70368744177664) (w : World) (h : WrAt W g c O w) :
    Calls Try.prog 12 #[.pointer (some ⟨g, 0, none⟩), .int .i64 n] w (PutEnd W g (ink c (iNum n)) O w) := by
  have H := Lib.hid h; clear h
  have HL := Lib.hid hl; clear hl
  by_cases hn : n < 0 ∨ 1099511627776 < n
  · have e : Hid (iNum n = ([], true)) := iNum_no hn
    rw [e.out]
    have GF := Lib.hid (fun w => numFits_no n hn w)
    have GP := Lib.hid (fun w => numPut_no n hn w)
    have GU := Lib.hid (put_any W g c O none [] 0 false (by have := HL.out; simp; omega) w BytesAt.nil (fun a ha => by cases ha) H.out)
    clear hn
    go_enter Try.func12, Try.ntmps12
    go_wp2_with fail
    refine (GF.out _).mono ?_
    rintro e w' ⟨rfl, rfl⟩
    go_wp2_with fail
    refine (GP.out _).mono ?_
    rintro e w' ⟨rfl, rfl⟩
    go_wp2_with fail
    refine GU.out.mono ?_
    rintro e w2 ⟨rfl, O2, hw, hst⟩
    have HW := Lib.hid hw; have HST := Lib.hid hst; clear hw hst
    go_wp2
    go_ret
    exact ⟨rfl, O2, HW.out, HST.out⟩
  · obtain ⟨m, rfl⟩ : ∃ m : Nat, n = (m : Int) := ⟨n.toNat, by omega⟩
    have hm : m ≤ 1099511627776 := by omega
    have e : Hid (iNum (m : Int) = (nput m, false)) := iNum_yes hm
    rw [e.out]
    have HLP : Hid ((nput m).length ≤ 6) := by show _ ≤ 6; have := iNum_length (m : Int); rw [e.out] at this; exact this
    have GF := Lib.hid (fun w => numFits_yes (m : Int) (by omega) (by omega) w)
    have GP := Lib.hid (fun w => numPut_yes m hm w)
    obtain ⟨p, HP⟩ : ∃ p, Hid (nput m = p) := ⟨_, rfl⟩
    rw [HP.out] at GP HLP ⊢
    clear hn
    go_enter Try.func12, Try.ntmps12
    go_wp2_with fail
    refine (GF.out _).mono ?_
    rintro e w' ⟨rfl, rfl⟩
    go_wp2_with fail
    refine (GP.out _).mono ?_
    rintro e w1 ⟨v, rfl, hv⟩
    obtain ⟨gb, cb, rfl, _, hge, hlt, hcl, hb1⟩ := hv
    have GU := Lib.hid (put_any W g c O (some ⟨gb, 0, none⟩) p cb true (by have := HL.out; have := HLP.out; omega) w1 (.inr ⟨gb, 0, rfl, hlt, hcl⟩)
      (fun a ha ho => by injection ha with ha; subst ha; have := (H.out.2.2.1 _ ho).2; simp only at this; omega) (H.out.below hb1))
    have HB1 := Lib.hid hb1
    clear hge hlt hcl hb1
    go_wp2_with fail
    refine GU.out.mono ?_
    rintro e w2 ⟨rfl, O2, hw, hst⟩
    have HW := Lib.hid hw; have HST := Lib.hid hst; clear hw hst
    go_wp2
    go_ret
    exact ⟨rfl, O2, HW.out, (Step.of_below HB1.out).trans HST.out⟩
end Go.Proofs.Ytkapfijokmajlaa

/- The landed writer, codec.Writer: the contracts of Text, Flag, Done. Condition: no more than 2^40 bytes in all. -/
namespace Go.Proofs.Ytkapfijokmajlaa
open Go.RowKit Go.Deep

theorem utfValid_any (l : List Nat) (hb : ∀ x ∈ l, x < 256) (hl : l.length ≤ 1099511627776) (w : World) :
    Calls Try.prog 57 #[.string (bstr l)] w fun e w' => e = .returned (.bool (validB l)) ∧ w = w' := by
  by_cases h : ∃ vs, V l vs
  · obtain ⟨vs, hv⟩ := h
    rw [validB_yes hv]
    exact utfValid_yes hv hl w
  · rw [validB_no h]
    exact utfValid_no h hb hl w
theorem conv_str (l : List Nat) (hb : ∀ x ∈ l, x < 256) (w : World) : ∃ cap w', (convert 9 25 (.string (bstr l))).run Try.prog w = .ok (.slice (some ⟨w.heap.size, 0, none⟩) l.length cap) w' ∧
    BytesAt w' (some ⟨w.heap.size, 0, none⟩) l ∧ Below w.heap.size w w' := by
  have h := run_bytes_of_string (P := Try.prog) w 9 25 5 (bstr l) Try.underlying9 Try.underlying25 Try.underlying5
  rw [bstr_size] at h
  refine ⟨_, _, h, ?_, ?_⟩
  · refine BytesAt.lit (w := w.drew) (fun j x hj => ?_) rfl
    have hjl : j < l.length := (List.getElem?_eq_some_iff.1 hj).1
    have hx := hb x (List.mem_of_getElem? hj)
    have h1 : (bstr l).data[j]? = some (UInt8.ofNat x) := by
      rw [← Array.getElem?_toList, bstr_data, List.getElem?_map, hj]; rfl
    obtain ⟨hd, h2⟩ := Array.getElem?_eq_some_iff.1 h1
    rw [bytesRow_at _ _ j hd, h2]
    simp
    omega
  · exact ((Below.refl _ _).drew).alloc (Nat.le_refl _) _
theorem ink_text' (c : Ink) (t : List Nat) : ink (ink c (iNum t.length)) (t, !validB t) = ink c (iText t) := by
  obtain ⟨a, b⟩ := c
  simp [ink, iText, Bool.or_assoc]
  cases (iNum (t.length : Int)).2 <;> cases validB t <;> rfl

set_option maxRecDepth 100000 in
theorem wrText_any (W : World) (g : Nat) (c : Ink) (O : Nat → Prop) (t : List Nat) (hb : ∀ x ∈ t, x < 256) (hl : c.1.length + t.length + 6 ≤ 1099511627776) (w : World) (h : WrAt W g c O w) :
    Calls Try.prog 32 #[.pointer (some ⟨g, 0, none⟩), .string (bstr t)] w (PutEnd W g (ink c (iText t)) O w) := by
  have GN := Lib.hid (wrNum_any W g c O (t.length : Int) (by omega) w h)
  have GV := Lib.hid (fun w => utfValid_any t hb (by omega) w)
  have GC := Lib.hid (fun w => conv_str t hb w)
  have HT := Lib.hid (ink_text' c t)
  rw [← HT.out]
  have HIL : Hid ((ink c (iNum (t.length : Int))).1.length + t.length ≤ 70368744177664) := by
    show _ ≤ _
    have := iNum_length (t.length : Int)
    simp only [ink, List.length_append]
    omega
  have hsz := bstr_size t
  obtain ⟨D, HD⟩ : ∃ D, Hid (ink c (iNum (t.length : Int)) = D) := ⟨_, rfl⟩
  rw [HD.out] at GN HIL ⊢
  obtain ⟨F, HF⟩ : ∃ F, Hid (validB t = F) := ⟨_, rfl⟩
  rw [HF.out] at GV ⊢
  clear h hb hl
  go_enter Try.func32, Try.ntmps32
  go_wp2_with fail
  refine GN.out.mono ?_
  rintro e w1 ⟨rfl, O1, hw1, hst1⟩
  have HW1 := Lib.hid hw1; have HST1 := Lib.hid hst1; clear hw1 hst1
  go_wp2_with fail
  refine (GV.out _).mono ?_
  rintro e w2 ⟨rfl, rfl⟩
  obtain ⟨cap, w3, hrun, hat, hb3⟩ := GC.out w1
  have HB3 := Lib.hid hb3
  have GU := Lib.hid (put_any W g D O1 (some ⟨w1.heap.size, 0, none⟩) t cap F HIL.out w3 hat (fun a ha ho => by injection ha with ha; subst ha; have := (HW1.out.2.2.1 _ ho).2; simp only at this; omega) (HW1.out.below hb3))
  clear hat hb3
  go_wp2_with fail
  refine GU.out.mono ?_
  rintro e w4 ⟨rfl, O2, hw, hst⟩
  have HW := Lib.hid hw; have HST := Lib.hid hst; clear hw hst
  go_wp2
  go_ret
  exact ⟨rfl, O2, HW.out, HST1.out.trans ((Step.of_below HB3.out).trans HST.out)⟩

set_option maxRecDepth 100000 in
theorem wrFlag_any (W : World) (g : Nat) (c : Ink) (O : Nat → Prop) (b : Bool) (hl : c.1.length + 6 ≤ 70368744177664) (w : World) (h : WrAt W g c O w) :
    Calls Try.prog 39 #[.pointer (some ⟨g, 0, none⟩), .bool b] w (PutEnd W g (ink c (iFlag b)) O w) := by
  cases b
  all_goals
    first
      | have GN := Lib.hid (wrNum_any W g c O 0 hl w h)
        have e : Hid (iFlag false = iNum 0) := rfl
        rw [e.out]
        clear h hl e
        go_enter Try.func39, Try.ntmps39
        go_wp2_with fail
        refine GN.out.mono ?_
        rintro e w2 ⟨rfl, O2, hw, hst⟩
        have HW := Lib.hid hw; have HST := Lib.hid hst; clear hw hst
        go_wp2
        go_ret
        exact ⟨rfl, O2, HW.out, HST.out⟩
      | have GN := Lib.hid (wrNum_any W g c O 1 hl w h)
        have e : Hid (iFlag true = iNum 1) := rfl
        rw [e.out]
        clear h hl e
        go_enter Try.func39, Try.ntmps39
        go_wp2_with fail
        refine GN.out.mono ?_
        rintro e w2 ⟨rfl, O2, hw, hst⟩
        have HW := Lib.hid hw; have HST := Lib.hid hst; clear hw hst
        go_wp2
        go_ret
        exact ⟨rfl, O2, HW.out, HST.out⟩

/-- What the landed writer's Done answers. -/
def WrEnd (c : Ink) (w : World) (w' : World) (e : Ending) : Prop :=
  c.2 = true ∧ e = .returned (.tuple #[.slice none 0 0, .bool false]) ∨ c.2 = false ∧ ∃ A k, e = .returned (.tuple #[.slice A c.1.length k, .bool true]) ∧ w'.ownsRow w.heap.size 5 1 (.slice A c.1.length k) c.1.length (u8s c.1)

set_option maxRecDepth 100000 in
theorem wrDone_any (W : World) (g : Nat) (c : Ink) (O : Nat → Prop) (hl : c.1.length ≤ 70368744177664) (w : World) (h : WrAt W g c O w) :
    Calls Try.prog 11 #[.pointer (some ⟨g, 0, none⟩)] w fun e w' => WrEnd c w w' e ∧ Below w.heap.size w w' := by
  obtain ⟨h1, h2, h3, h4⟩ := h
  rcases h4 with ⟨hc, hr⟩ | ⟨hc, hr⟩ | ⟨hc, s, A0, k, hs, hgs, hr, hr2, ho, hA⟩
  · have c2 := hr.cell (i := 2) (by omega)
    rw [show wrCells none 0 true 2 = .bool true from rfl] at c2
    have HC := Lib.hid hc
    clear hr h1 h2 h3 hc hl
    go_enter Try.func11, Try.ntmps11
    go_wp2
    go_ret2
    exact ⟨.inl ⟨HC.out, rfl⟩, Below.refl _ _⟩
  · have c2 := hr.cell (i := 2) (by omega)
    rw [show wrCells none 0 false 2 = .bool false from rfl] at c2
    have GA := Lib.hid (all_zero w g hr)
    subst hc
    clear hr h1 h2 h3 hl
    go_enter Try.func11, Try.ntmps11
    go_wp2_with fail
    refine GA.out.mono ?_
    rintro e w' ⟨rfl, rfl⟩
    go_wp2
    go_ret2
    exact ⟨.inr ⟨rfl, none, 0, rfl, World.ownsRow_nil _ _ _ _⟩, Below.refl _ _⟩
  · have c2 := hr.cell (i := 2) (by omega)
    rw [show wrCells (some ⟨s, 0, none⟩) c.1.length false 2 = .bool false from rfl] at c2
    have GA := Lib.hid (all_some w g s A0 k c.1 hl hr hr2 ho)
    have HC := Lib.hid hc
    clear hr hr2 ho h1 h2 h3 hl hc hA hs hgs
    go_enter Try.func11, Try.ntmps11
    go_wp2_with fail
    refine GA.out.mono ?_
    rintro e w' ⟨⟨v, rfl, ho⟩, hb⟩
    obtain ⟨A, k', rfl⟩ := own_slice ho
    have HO := Lib.hid ho; have HB := Lib.hid hb; clear ho hb
    go_wp2
    go_ret2
    exact ⟨.inr ⟨HC.out, A, k', rfl, HO.out⟩, HB.out⟩
end Go.Proofs.Ytkapfijokmajlaa

/- The landed writer, codec.Writer: the contract of Comps. Condition: no more than 2^40 bytes in all. -/
namespace Go.Proofs.Ytkapfijokmajlaa
open Go.RowKit Go.Deep

set_option maxHeartbeats 2000000 in
set_option maxRecDepth 100000 in
theorem wrComps_any (W : World) (g : Nat) (c : Ink) (O : Nat → Prop) (A : Option Addr) (l : List CompV) (cap : Nat) (hg : ∀ y ∈ l, y.Good) (hl : c.1.length + roomComps l ≤ 1099511627776) (hA : CompsAt W A l) (w : World) (h : WrAt W g c O w) :
    Calls Try.prog 40 #[.pointer (some ⟨g, 0, none⟩), .slice A l.length cap] w (PutEnd W g (ink c (iComps l)) O w) := by
  have hlen : l.length ≤ (l.map roomComp).sum := by
    clear hA hg hl
    induction l with
    | nil => simp
    | cons x l ih => rw [List.map_cons, List.sum_cons, List.length_cons]; have : 1 ≤ roomComp x := by unfold roomComp; omega
                     omega
  unfold roomComps at hl
  have HA := Lib.hid hA; clear hA
  have HG := Lib.hid hg; clear hg
  have HL := Lib.hid hl
  have hln : l.length ≤ 1099511627776 := by omega
  have GN0 := Lib.hid (wrNum_any W g c O (l.length : Int) (by omega) w h)
  clear hl hlen h
  obtain ⟨C0, HC0⟩ : ∃ C0, Hid (ink c (iNum (l.length : Int)) = C0) := ⟨_, rfl⟩
  have HC0L : Hid (C0.1.length ≤ c.1.length + 6) := by show _ ≤ _; rw [← HC0.out, ink_length]; have := iNum_length (l.length : Int); omega
  have HEND : Hid (ink c (iComps l) = ink C0 (inks (l.map iComp))) := by show _ = _; rw [iComps, ← ink_assoc, HC0.out]
  rw [HEND.out]
  rw [HC0.out] at GN0
  go_enter Try.func40, Try.ntmps40
  go_wp2_with fail
  refine GN0.out.mono ?_
  rintro e w1 ⟨rfl, O1, hw1, hst1⟩
  have H1 := Lib.hid hw1; have HST1 := Lib.hid hst1; clear hw1 hst1
  go_wp2_with fail
  go_loopw [6, 13] (fun _ i wr => ∃ k : Nat, k ≤ l.length ∧ i = .int .i64 k ∧ ∃ O', WrAt W g (ink C0 (inks ((l.take k).map iComp))) O' wr ∧ Step O O' w wr) (fun _ i _ => l.length - (intOf i).toNat)
  case atStart => exact ⟨0, Nat.zero_le _, rfl, O1, by rw [List.take_zero, List.map_nil, inks, ink_none]; exact H1.out, HST1.out⟩
  case round =>
    obtain ⟨k, hk, rfl, O2, hout, hst⟩ := hrel
    have HOUT := Lib.hid hout; have HST2 := Lib.hid hst; clear hout hst
    by_cases hlt : k < l.length
    · have HST := Lib.hid (inks_take iComp l k hlt)
      have HLEN : Hid ((ink C0 (inks ((l.take k).map iComp))).1.length + roomComp l[k] ≤ 1099511627776) := by
        show _ ≤ _
        rw [ink_length]
        have h1 := inks_length iComp roomComp iComp_length (l.take k)
        have h2 := sum_take_le roomComp l k hlt
        have := HL.out
        have := HC0L.out
        omega
      obtain ⟨D, HD⟩ : ∃ D, Hid (ink C0 (inks ((l.take k).map iComp)) = D) := ⟨_, rfl⟩
      have HNX : Hid (ink C0 (inks ((l.take (k + 1)).map iComp)) = ink (ink (ink D (iNum l[k].kind)) (iNum l[k].n)) (iText l[k].text)) := by
        show _ = _
        rw [HST.out, ← ink_assoc, HD.out, iComp, ink_assoc, ink_assoc]
      rw [HD.out] at HOUT HLEN
      have HGK := Lib.hid (HG.out _ (List.getElem_mem hlt))
      obtain ⟨b, bo, rfl, _⟩ := HA.out.form (by omega)
      obtain ⟨q0, q1, q2⟩ := (HA.out.below HOUT.out.upto).at_ hlt
      obtain ⟨Y, HY⟩ : ∃ Y, Hid (l[k] = Y) := ⟨l[k], Lib.hid rfl⟩
      rw [HY.out] at HGK q0 q1 q2 HNX HLEN
      obtain ⟨yk, yn, yt⟩ := Y
      simp only at q0 q1 q2 HNX
      have HGT : Hid ((∀ x ∈ yt, x < 256) ∧ D.1.length + yt.length + 18 ≤ 1099511627776) := ⟨HGK.out.2.2.1, by have := HLEN.out; simp only [roomComp] at this; omega⟩
      obtain ⟨D1, HD1⟩ : ∃ D1, Hid (ink D (iNum yk) = D1) := ⟨_, rfl⟩
      obtain ⟨D2, HD2⟩ : ∃ D2, Hid (ink D1 (iNum yn) = D2) := ⟨_, rfl⟩
      have HL1 : Hid (D1.1.length ≤ D.1.length + 6) := by show _ ≤ _; rw [← HD1.out, ink_length]; have := iNum_length yk; omega
      have HL2 : Hid (D2.1.length ≤ D1.1.length + 6) := by show _ ≤ _; rw [← HD2.out, ink_length]; have := iNum_length yn; omega
      rw [HD1.out, HD2.out] at HNX
      go_wp2_with fail
      obtain ⟨wa, HWA⟩ : ∃ wa, Hid (wr.alloc (.cells #[.int .i64 yk, .int .i64 yn, .string (bstr yt)] 94) = wa) := ⟨_, rfl⟩
      have HR : Hid (wa.drew.rowIs wr.heap.size 94 3 (fun i => (#[.int .i64 yk, .int .i64 yn, .string (bstr yt)][i]?).getD undef)) := by
        show wa.drew.rowIs _ _ _ _
        rw [← HWA.out]
        exact (World.rowIs_alloc wr _ _ _ (fun i hi => by rw [Array.getElem?_eq_getElem hi]; rfl)).drew
      have HWR : Hid (WrAt W g D O2 wa.drew) := by
        show WrAt W g D O2 wa.drew
        rw [← HWA.out]
        exact (HOUT.out.below ((Below.refl _ _).alloc (Nat.le_refl _) _)).drew
      have HSTA : Hid (Step O2 O2 wr wa.drew) := by
        show Step O2 O2 wr wa.drew
        rw [← HWA.out]
        exact Step.of_below ((Below.refl _ _).alloc (Nat.le_refl _) _).drew
      have HKC : Hid (¬ O2 wr.heap.size) := fun hh => by have := (HOUT.out.2.2.1 _ hh).2; omega
      rw [HWA.out]
      clear q0 q1 q2
      obtain ⟨kc, HKE⟩ : ∃ kc, Hid (wr.heap.size = kc) := ⟨_, rfl⟩
      rw [HKE.out] at HR HKC ⊢
      have e0 : ∀ e : ExtK (keepBlocks [kc]) wa.drew, e.val.cell? ⟨kc, 0, none⟩ = some (.int .i64 yk) := fun e => (cell_of_block (e.property.2 kc (by simp)) 0).trans ((HR.out.cell (i := 0) (by omega)).trans rfl)
      have e1 : ∀ e : ExtK (keepBlocks [kc]) wa.drew, e.val.cell? ⟨kc, 1, none⟩ = some (.int .i64 yn) := fun e => (cell_of_block (e.property.2 kc (by simp)) 1).trans ((HR.out.cell (i := 1) (by omega)).trans rfl)
      have e2 : ∀ e : ExtK (keepBlocks [kc]) wa.drew, e.val.cell? ⟨kc, 2, none⟩ = some (.string (bstr yt)) := fun e => (cell_of_block (e.property.2 kc (by simp)) 2).trans ((HR.out.cell (i := 2) (by omega)).trans rfl)
      refine wp_region_held_lit (keepBlocks [kc]) [(0, true), (1, true), (2, true), (4, true), (5, true), (7, true), (8, true), (3, false), (6, false), (9, false)] (by kernel_rfl) (by kernel_rfl) (fun _ _ d _ _ h => by cases d <;> exact h) ?_
      simp only [picked, List.map_cons, List.map_nil, List.getElem?_cons_succ, List.getElem?_cons_zero, Option.getD_some]
      repeat (first | (refine wpH_quiet (by rfl) (fun K hK => ?_); go_big_quiet_op; refine hK _ ?_; clear hK K) | (refine wpH_skip (by rfl) ?_; simp only [Act.put, List.setIfInBounds_toArray, List.set_cons_zero, List.set_cons_succ]))
      clear e0 e1 e2
      refine wpH_one (by rfl) (fun K hK => ?_)
      go_simp
      refine (wrNum_any W g D O2 yk (by have := HGT.out; omega) _ HWR.out).mono ?_
      rintro e w2 ⟨rfl, O3, h3, s3⟩
      have H3 := Lib.hid h3; have S3 := Lib.hid s3; clear h3 s3
      rw [HD1.out] at H3
      refine hK _ _ (keep_one S3.out.size (S3.out.block kc HR.out.lt HKC.out)) ?_
      clear hK K
      repeat (first | (refine wpH_quiet (by rfl) (fun K hK => ?_); go_big_quiet_op; refine hK _ ?_; clear hK K) | (refine wpH_skip (by rfl) ?_; simp only [Act.put, List.setIfInBounds_toArray, List.set_cons_zero, List.set_cons_succ]))
      refine wpH_one (by rfl) (fun K hK => ?_)
      go_simp
      refine (wrNum_any W g D1 O3 yn (by have := HGT.out; have := HL1.out; omega) _ H3.out).mono ?_
      rintro e w3 ⟨rfl, O4, h4, s4⟩
      have H4 := Lib.hid h4; have S4 := Lib.hid s4; clear h4 s4
      rw [HD2.out] at H4
      have HK3 : Hid (kc < w2.heap.size ∧ ¬ O3 kc) := ⟨Nat.lt_of_lt_of_le HR.out.lt S3.out.size, fun hh => HKC.out (S3.out.own kc HR.out.lt hh)⟩
      refine hK _ _ (keep_one S4.out.size (S4.out.block kc HK3.out.1 HK3.out.2)) ?_
      clear hK K
      repeat (first | (refine wpH_quiet (by rfl) (fun K hK => ?_); go_big_quiet_op; refine hK _ ?_; clear hK K) | (refine wpH_skip (by rfl) ?_; simp only [Act.put, List.setIfInBounds_toArray, List.set_cons_zero, List.set_cons_succ]))
      refine wpH_one (by rfl) (fun K hK => ?_)
      go_simp
      refine (wrText_any W g D2 O4 yt HGT.out.1 (by have := HGT.out; have := HL1.out; have := HL2.out; omega) _ H4.out).mono ?_
      rintro e w4 ⟨rfl, O5, h5, s5⟩
      have H5 := Lib.hid h5; have S5 := Lib.hid s5; clear h5 s5
      refine hK _ _ (keep_one S5.out.size (S5.out.block kc (Nat.lt_of_lt_of_le HK3.out.1 S4.out.size) (fun hh => HK3.out.2 (S4.out.own kc HK3.out.1 hh)))) ?_
      clear hK K
      repeat (first | (refine wpH_quiet (by rfl) (fun K hK => ?_); go_big_quiet_op; refine hK _ ?_; clear hK K) | (refine wpH_skip (by rfl) ?_; simp only [Act.put, List.setIfInBounds_toArray, List.set_cons_zero, List.set_cons_succ]))
      refine wpH_nil ?_
      go_wp2
      go_roundw
      case rel => exact ⟨k + 1, by omega, by go_num, O5, by rw [HNX.out]; exact H5.out, HST2.out.trans (HSTA.out.trans (S3.out.trans (S4.out.trans S5.out)))⟩
      case measure => simp [intOf]; omega
    · obtain rfl : k = l.length := by omega
      rw [List.take_length] at HOUT
      go_wp2
      go_ret
      exact ⟨rfl, O2, HOUT.out, HST2.out⟩
end Go.Proofs.Ytkapfijokmajlaa

/- The landed writer, codec.Writer: the contract of Nodes. Condition: no more than 2^40 bytes in all. -/
namespace Go.Proofs.Ytkapfijokmajlaa
open Go.RowKit Go.Deep

set_option maxHeartbeats 4000000 in
set_option maxRecDepth 100000 in
theorem wrNodes_any (W : World) (g : Nat) (c : Ink) (O : Nat → Prop) (A : Option Addr) (l : List NodeV) (cap : Nat) (hg : ∀ y ∈ l, y.Good) (hl : c.1.length + roomNodes l ≤ 1099511627776) (hA : NodesAt W A l) (w : World) (h : WrAt W g c O w) :
    Calls Try.prog 42 #[.pointer (some ⟨g, 0, none⟩), .slice A l.length cap] w (PutEnd W g (ink c (iNodes l)) O w) := by
  have hlen : l.length ≤ (l.map roomNode).sum := by
    clear hA hg hl
    induction l with
    | nil => simp
    | cons x l ih => rw [List.map_cons, List.sum_cons, List.length_cons]; have : 1 ≤ roomNode x := by unfold roomNode; omega
                     omega
  unfold roomNodes at hl
  have HA := Lib.hid hA; clear hA
  have HG := Lib.hid hg; clear hg
  have HL := Lib.hid hl
  have hln : l.length ≤ 1099511627776 := by omega
  have GN0 := Lib.hid (wrNum_any W g c O (l.length : Int) (by omega) w h)
  clear hl hlen h
  obtain ⟨C0, HC0⟩ : ∃ C0, Hid (ink c (iNum (l.length : Int)) = C0) := ⟨_, rfl⟩
  have HC0L : Hid (C0.1.length ≤ c.1.length + 6) := by show _ ≤ _; rw [← HC0.out, ink_length]; have := iNum_length (l.length : Int); omega
  have HEND : Hid (ink c (iNodes l) = ink C0 (inks (l.map iNode))) := by show _ = _; rw [iNodes, ← ink_assoc, HC0.out]
  rw [HEND.out]
  rw [HC0.out] at GN0
  go_enter Try.func42, Try.ntmps42
  go_wp2_with fail
  refine GN0.out.mono ?_
  rintro e w1 ⟨rfl, O1, hw1, hst1⟩
  have H1 := Lib.hid hw1; have HST1 := Lib.hid hst1; clear hw1 hst1
  go_wp2_with fail
  go_loopw [6, 13] (fun _ i wr => ∃ k : Nat, k ≤ l.length ∧ i = .int .i64 k ∧ ∃ O', WrAt W g (ink C0 (inks ((l.take k).map iNode))) O' wr ∧ Step O O' w wr) (fun _ i _ => l.length - (intOf i).toNat)
  case atStart => exact ⟨0, Nat.zero_le _, rfl, O1, by rw [List.take_zero, List.map_nil, inks, ink_none]; exact H1.out, HST1.out⟩
  case round =>
    obtain ⟨k, hk, rfl, O2, hout, hst⟩ := hrel
    have HOUT := Lib.hid hout; have HST2 := Lib.hid hst; clear hout hst
    by_cases hlt : k < l.length
    · have HST := Lib.hid (inks_take iNode l k hlt)
      have HLEN : Hid ((ink C0 (inks ((l.take k).map iNode))).1.length + roomNode l[k] ≤ 1099511627776) := by
        show _ ≤ _
        rw [ink_length]
        have h1 := inks_length iNode roomNode iNode_length (l.take k)
        have h2 := sum_take_le roomNode l k hlt
        have := HL.out
        have := HC0L.out
        omega
      obtain ⟨D, HD⟩ : ∃ D, Hid (ink C0 (inks ((l.take k).map iNode)) = D) := ⟨_, rfl⟩
      have HNX : Hid (ink C0 (inks ((l.take (k + 1)).map iNode)) = ink (ink (ink (ink (ink D (iNum l[k].id)) (iNum l[k].parent)) (iText l[k].name)) (iFlag l[k].dir)) (iText l[k].text)) := by
        show _ = _
        rw [HST.out, ← ink_assoc, HD.out, iNode]
        simp only [ink_assoc]
      rw [HD.out] at HOUT HLEN
      have HGK := Lib.hid (HG.out _ (List.getElem_mem hlt))
      obtain ⟨b, bo, rfl, _⟩ := HA.out.form (by omega)
      obtain ⟨q0, q1, q2, q3, q4⟩ := (HA.out.below HOUT.out.upto).at_ hlt
      obtain ⟨Y, HY⟩ : ∃ Y, Hid (l[k] = Y) := ⟨l[k], Lib.hid rfl⟩
      rw [HY.out] at HGK HNX HLEN q0 q1 q2 q3 q4
      obtain ⟨yi, yp, yn, yd, yt⟩ := Y
      simp only at q0 q1 q2 q3 q4 HNX
      have HGT : Hid (D.1.length + (yn.length + yt.length + 30) ≤ 1099511627776) := HLEN.out
      obtain ⟨D1, HD1⟩ : ∃ Z, Hid (ink D (iNum yi) = Z) := ⟨_, rfl⟩
      have HL1 : Hid (D1.1.length ≤ D.1.length + 6) := by show _ ≤ _; rw [← HD1.out, ink_length]; have := iNum_length yi; omega
      obtain ⟨D2, HD2⟩ : ∃ Z, Hid (ink D1 (iNum yp) = Z) := ⟨_, rfl⟩
      have HL2 : Hid (D2.1.length ≤ D1.1.length + 6) := by show _ ≤ _; rw [← HD2.out, ink_length]; have := iNum_length yp; omega
      obtain ⟨D3, HD3⟩ : ∃ Z, Hid (ink D2 (iText yn) = Z) := ⟨_, rfl⟩
      have HL3 : Hid (D3.1.length ≤ D2.1.length + (yn.length + 6)) := by show _ ≤ _; rw [← HD3.out, ink_length]; have := iText_length yn; omega
      obtain ⟨D4, HD4⟩ : ∃ Z, Hid (ink D3 (iFlag yd) = Z) := ⟨_, rfl⟩
      have HL4 : Hid (D4.1.length ≤ D3.1.length + 6) := by show _ ≤ _; rw [← HD4.out, ink_length]; have := iFlag_length yd; omega
      rw [HD1.out, HD2.out, HD3.out, HD4.out] at HNX
      go_wp2_with fail
      obtain ⟨wa, HWA⟩ : ∃ wa, Hid (wr.alloc (.cells #[.int .i64 yi, .int .i64 yp, .string (bstr yn), .bool yd, .string (bstr yt)] 57) = wa) := ⟨_, rfl⟩
      have HR : Hid (wa.drew.rowIs wr.heap.size 57 5 (fun i => (#[.int .i64 yi, .int .i64 yp, .string (bstr yn), .bool yd, .string (bstr yt)][i]?).getD undef)) := by
        show wa.drew.rowIs _ _ _ _
        rw [← HWA.out]
        exact (World.rowIs_alloc wr _ _ _ (fun i hi => by rw [Array.getElem?_eq_getElem hi]; rfl)).drew
      have HWR : Hid (WrAt W g D O2 wa.drew) := by
        show WrAt W g D O2 wa.drew
        rw [← HWA.out]
        exact (HOUT.out.below ((Below.refl _ _).alloc (Nat.le_refl _) _)).drew
      have HSTA : Hid (Step O2 O2 wr wa.drew) := by
        show Step O2 O2 wr wa.drew
        rw [← HWA.out]
        exact Step.of_below ((Below.refl _ _).alloc (Nat.le_refl _) _).drew
      have HKC : Hid (¬ O2 wr.heap.size) := fun hh => by have := (HOUT.out.2.2.1 _ hh).2; omega
      rw [HWA.out]
      clear q0 q1 q2 q3 q4
      obtain ⟨kc, HKE⟩ : ∃ kc, Hid (wr.heap.size = kc) := ⟨_, rfl⟩
      rw [HKE.out] at HR HKC ⊢
      have e0 : ∀ e : ExtK (keepBlocks [kc]) wa.drew, e.val.cell? ⟨kc, 0, none⟩ = some (.int .i64 yi) := fun e => (cell_of_block (e.property.2 kc (by simp)) 0).trans ((HR.out.cell (i := 0) (by omega)).trans rfl)
      have e1 : ∀ e : ExtK (keepBlocks [kc]) wa.drew, e.val.cell? ⟨kc, 1, none⟩ = some (.int .i64 yp) := fun e => (cell_of_block (e.property.2 kc (by simp)) 1).trans ((HR.out.cell (i := 1) (by omega)).trans rfl)
      have e2 : ∀ e : ExtK (keepBlocks [kc]) wa.drew, e.val.cell? ⟨kc, 2, none⟩ = some (.string (bstr yn)) := fun e => (cell_of_block (e.property.2 kc (by simp)) 2).trans ((HR.out.cell (i := 2) (by omega)).trans rfl)
      have e3 : ∀ e : ExtK (keepBlocks [kc]) wa.drew, e.val.cell? ⟨kc, 3, none⟩ = some (.bool yd) := fun e => (cell_of_block (e.property.2 kc (by simp)) 3).trans ((HR.out.cell (i := 3) (by omega)).trans rfl)
      have e4 : ∀ e : ExtK (keepBlocks [kc]) wa.drew, e.val.cell? ⟨kc, 4, none⟩ = some (.string (bstr yt)) := fun e => (cell_of_block (e.property.2 kc (by simp)) 4).trans ((HR.out.cell (i := 4) (by omega)).trans rfl)
      refine wp_region_held_lit (keepBlocks [kc]) [(0, true), (1, true), (2, true), (4, true), (5, true), (7, true), (8, true), (10, true), (11, true), (13, true), (14, true), (3, false), (6, false), (9, false), (12, false), (15, false)] (by kernel_rfl) (by kernel_rfl) (fun _ _ d _ _ h => by cases d <;> exact h) ?_
      simp only [picked, List.map_cons, List.map_nil, List.getElem?_cons_succ, List.getElem?_cons_zero, Option.getD_some]
      repeat (first | (refine wpH_quiet (by rfl) (fun K hK => ?_); go_big_quiet_op; refine hK _ ?_; clear hK K) | (refine wpH_skip (by rfl) ?_; simp only [Act.put, List.setIfInBounds_toArray, List.set_cons_zero, List.set_cons_succ]))
      clear e0 e1 e2 e3 e4
      refine wpH_one (by rfl) (fun K hK => ?_)
      go_simp
      refine (wrNum_any W g D O2 yi (by have := HGT.out;  omega) _ HWR.out).mono ?_
      rintro e u1w ⟨rfl, P1, h1, s1⟩
      have H1w := Lib.hid h1; have S1w := Lib.hid s1; clear h1 s1
      rw [HD1.out] at H1w
      have HK1 : Hid (kc < wa.drew.heap.size ∧ ¬ O2 kc) := ⟨HR.out.lt, HKC.out⟩
      refine hK _ _ (keep_one S1w.out.size (S1w.out.block kc HK1.out.1 HK1.out.2)) ?_
      clear hK K
      repeat (first | (refine wpH_quiet (by rfl) (fun K hK => ?_); go_big_quiet_op; refine hK _ ?_; clear hK K) | (refine wpH_skip (by rfl) ?_; simp only [Act.put, List.setIfInBounds_toArray, List.set_cons_zero, List.set_cons_succ]))
      refine wpH_one (by rfl) (fun K hK => ?_)
      go_simp
      refine (wrNum_any W g D1 P1 yp (by have := HGT.out; have := HL1.out; omega) _ H1w.out).mono ?_
      rintro e u2w ⟨rfl, P2, h2, s2⟩
      have H2w := Lib.hid h2; have S2w := Lib.hid s2; clear h2 s2
      rw [HD2.out] at H2w
      have HK2 : Hid (kc < u1w.heap.size ∧ ¬ P1 kc) := ⟨Nat.lt_of_lt_of_le HK1.out.1 S1w.out.size, fun hh => HK1.out.2 (S1w.out.own kc HK1.out.1 hh)⟩
      refine hK _ _ (keep_one S2w.out.size (S2w.out.block kc HK2.out.1 HK2.out.2)) ?_
      clear hK K
      repeat (first | (refine wpH_quiet (by rfl) (fun K hK => ?_); go_big_quiet_op; refine hK _ ?_; clear hK K) | (refine wpH_skip (by rfl) ?_; simp only [Act.put, List.setIfInBounds_toArray, List.set_cons_zero, List.set_cons_succ]))
      refine wpH_one (by rfl) (fun K hK => ?_)
      go_simp
      refine (wrText_any W g D2 P2 yn HGK.out.2.2.1.1 (by have := HGT.out; have := HL1.out; have := HL2.out; omega) _ H2w.out).mono ?_
      rintro e u3w ⟨rfl, P3, h3, s3⟩
      have H3w := Lib.hid h3; have S3w := Lib.hid s3; clear h3 s3
      rw [HD3.out] at H3w
      have HK3 : Hid (kc < u2w.heap.size ∧ ¬ P2 kc) := ⟨Nat.lt_of_lt_of_le HK2.out.1 S2w.out.size, fun hh => HK2.out.2 (S2w.out.own kc HK2.out.1 hh)⟩
      refine hK _ _ (keep_one S3w.out.size (S3w.out.block kc HK3.out.1 HK3.out.2)) ?_
      clear hK K
      repeat (first | (refine wpH_quiet (by rfl) (fun K hK => ?_); go_big_quiet_op; refine hK _ ?_; clear hK K) | (refine wpH_skip (by rfl) ?_; simp only [Act.put, List.setIfInBounds_toArray, List.set_cons_zero, List.set_cons_succ]))
      refine wpH_one (by rfl) (fun K hK => ?_)
      go_simp
      refine (wrFlag_any W g D3 P3 yd (by have := HGT.out; have := HL1.out; have := HL2.out; have := HL3.out; omega) _ H3w.out).mono ?_
      rintro e u4w ⟨rfl, P4, h4, s4⟩
      have H4w := Lib.hid h4; have S4w := Lib.hid s4; clear h4 s4
      rw [HD4.out] at H4w
      have HK4 : Hid (kc < u3w.heap.size ∧ ¬ P3 kc) := ⟨Nat.lt_of_lt_of_le HK3.out.1 S3w.out.size, fun hh => HK3.out.2 (S3w.out.own kc HK3.out.1 hh)⟩
      refine hK _ _ (keep_one S4w.out.size (S4w.out.block kc HK4.out.1 HK4.out.2)) ?_
      clear hK K
      repeat (first | (refine wpH_quiet (by rfl) (fun K hK => ?_); go_big_quiet_op; refine hK _ ?_; clear hK K) | (refine wpH_skip (by rfl) ?_; simp only [Act.put, List.setIfInBounds_toArray, List.set_cons_zero, List.set_cons_succ]))
      refine wpH_one (by rfl) (fun K hK => ?_)
      go_simp
      refine (wrText_any W g D4 P4 yt HGK.out.2.2.2.1 (by have := HGT.out; have := HL1.out; have := HL2.out; have := HL3.out; have := HL4.out; omega) _ H4w.out).mono ?_
      rintro e u5w ⟨rfl, P5, h5, s5⟩
      have H5w := Lib.hid h5; have S5w := Lib.hid s5; clear h5 s5
      have HK5 : Hid (kc < u4w.heap.size ∧ ¬ P4 kc) := ⟨Nat.lt_of_lt_of_le HK4.out.1 S4w.out.size, fun hh => HK4.out.2 (S4w.out.own kc HK4.out.1 hh)⟩
      refine hK _ _ (keep_one S5w.out.size (S5w.out.block kc HK5.out.1 HK5.out.2)) ?_
      clear hK K
      repeat (first | (refine wpH_quiet (by rfl) (fun K hK => ?_); go_big_quiet_op; refine hK _ ?_; clear hK K) | (refine wpH_skip (by rfl) ?_; simp only [Act.put, List.setIfInBounds_toArray, List.set_cons_zero, List.set_cons_succ]))
      refine wpH_nil ?_
      go_wp2
      go_roundw
      case rel => exact ⟨k + 1, by omega, by go_num, P5, by rw [HNX.out]; exact H5w.out, HST2.out.trans (HSTA.out.trans (S1w.out.trans (S2w.out.trans (S3w.out.trans (S4w.out.trans S5w.out)))))⟩
      case measure => simp [intOf]; omega
    · obtain rfl : k = l.length := by omega
      rw [List.take_length] at HOUT
      go_wp2
      go_ret
      exact ⟨rfl, O2, HOUT.out, HST2.out⟩
end Go.Proofs.Ytkapfijokmajlaa

/- The landed writer, codec.Writer: the contract of Acts. Condition: no more than 2^40 bytes in all. -/
namespace Go.Proofs.Ytkapfijokmajlaa
open Go.RowKit Go.Deep

set_option maxHeartbeats 4000000 in
set_option maxRecDepth 100000 in
theorem wrActs_any (W : World) (g : Nat) (c : Ink) (O : Nat → Prop) (A : Option Addr) (l : List ActV) (cap : Nat) (hg : ∀ y ∈ l, y.Good) (hl : c.1.length + roomActs l ≤ 1099511627776) (hA : ActsAt W A l) (w : World) (h : WrAt W g c O w) :
    Calls Try.prog 41 #[.pointer (some ⟨g, 0, none⟩), .slice A l.length cap] w (PutEnd W g (ink c (iActs l)) O w) := by
  have hlen : l.length ≤ (l.map roomAct).sum := by
    clear hA hg hl
    induction l with
    | nil => simp
    | cons x l ih => rw [List.map_cons, List.sum_cons, List.length_cons]; have : 1 ≤ roomAct x := by unfold roomAct; omega
                     omega
  unfold roomActs at hl
  have HA := Lib.hid hA; clear hA
  have HG := Lib.hid hg; clear hg
  have HL := Lib.hid hl
  have hln : l.length ≤ 1099511627776 := by omega
  have GN0 := Lib.hid (wrNum_any W g c O (l.length : Int) (by omega) w h)
  clear hl hlen h
  obtain ⟨C0, HC0⟩ : ∃ C0, Hid (ink c (iNum (l.length : Int)) = C0) := ⟨_, rfl⟩
  have HC0L : Hid (C0.1.length ≤ c.1.length + 6) := by show _ ≤ _; rw [← HC0.out, ink_length]; have := iNum_length (l.length : Int); omega
  have HEND : Hid (ink c (iActs l) = ink C0 (inks (l.map iAct))) := by show _ = _; rw [iActs, ← ink_assoc, HC0.out]
  rw [HEND.out]
  rw [HC0.out] at GN0
  go_enter Try.func41, Try.ntmps41
  go_wp2_with fail
  refine GN0.out.mono ?_
  rintro e w1 ⟨rfl, O1, hw1, hst1⟩
  have H1 := Lib.hid hw1; have HST1 := Lib.hid hst1; clear hw1 hst1
  go_wp2_with fail
  go_loopw [6, 13] (fun _ i wr => ∃ k : Nat, k ≤ l.length ∧ i = .int .i64 k ∧ ∃ O', WrAt W g (ink C0 (inks ((l.take k).map iAct))) O' wr ∧ Step O O' w wr) (fun _ i _ => l.length - (intOf i).toNat)
  case atStart => exact ⟨0, Nat.zero_le _, rfl, O1, by rw [List.take_zero, List.map_nil, inks, ink_none]; exact H1.out, HST1.out⟩
  case round =>
    obtain ⟨k, hk, rfl, O2, hout, hst⟩ := hrel
    have HOUT := Lib.hid hout; have HST2 := Lib.hid hst; clear hout hst
    by_cases hlt : k < l.length
    · have HST := Lib.hid (inks_take iAct l k hlt)
      have HLEN : Hid ((ink C0 (inks ((l.take k).map iAct))).1.length + roomAct l[k] ≤ 1099511627776) := by
        show _ ≤ _
        rw [ink_length]
        have h1 := inks_length iAct roomAct iAct_length (l.take k)
        have h2 := sum_take_le roomAct l k hlt
        have := HL.out
        have := HC0L.out
        omega
      obtain ⟨D, HD⟩ : ∃ D, Hid (ink C0 (inks ((l.take k).map iAct)) = D) := ⟨_, rfl⟩
      have HNX : Hid (ink C0 (inks ((l.take (k + 1)).map iAct)) = ink (ink (ink (ink (ink (ink D (iNum l[k].kind)) (iNum l[k].id)) (iNum l[k].parent)) (iText l[k].name)) (iFlag l[k].dir)) (iComps l[k].ops)) := by
        show _ = _
        rw [HST.out, ← ink_assoc, HD.out, iAct]
        simp only [ink_assoc]
      rw [HD.out] at HOUT HLEN
      have HGK := Lib.hid (HG.out _ (List.getElem_mem hlt))
      have HOPS := Lib.hid (HA.out.2 _ (List.getElem_mem hlt))
      obtain ⟨b, bo, rfl, _⟩ := HA.out.form (by omega)
      obtain ⟨q0, q1, q2, q3, q4, q5⟩ := (HA.out.below HOUT.out.upto).at_ hlt
      obtain ⟨Y, HY⟩ : ∃ Y, Hid (l[k] = Y) := ⟨l[k], Lib.hid rfl⟩
      rw [HY.out] at HGK HNX HLEN q0 q1 q2 q3 q4 q5 HOPS
      obtain ⟨yk, yi, yp, yn, yd, oA, oC, yo⟩ := Y
      simp only at q0 q1 q2 q3 q4 q5 HNX HOPS
      have HGT : Hid (D.1.length + (yn.length + roomComps yo + 30) ≤ 1099511627776) := HLEN.out
      obtain ⟨D1, HD1⟩ : ∃ Z, Hid (ink D (iNum yk) = Z) := ⟨_, rfl⟩
      have HL1 : Hid (D1.1.length ≤ D.1.length + 6) := by show _ ≤ _; rw [← HD1.out, ink_length]; have := iNum_length yk; omega
      obtain ⟨D2, HD2⟩ : ∃ Z, Hid (ink D1 (iNum yi) = Z) := ⟨_, rfl⟩
      have HL2 : Hid (D2.1.length ≤ D1.1.length + 6) := by show _ ≤ _; rw [← HD2.out, ink_length]; have := iNum_length yi; omega
      obtain ⟨D3, HD3⟩ : ∃ Z, Hid (ink D2 (iNum yp) = Z) := ⟨_, rfl⟩
      have HL3 : Hid (D3.1.length ≤ D2.1.length + 6) := by show _ ≤ _; rw [← HD3.out, ink_length]; have := iNum_length yp; omega
      obtain ⟨D4, HD4⟩ : ∃ Z, Hid (ink D3 (iText yn) = Z) := ⟨_, rfl⟩
      have HL4 : Hid (D4.1.length ≤ D3.1.length + (yn.length + 6)) := by show _ ≤ _; rw [← HD4.out, ink_length]; have := iText_length yn; omega
      obtain ⟨D5, HD5⟩ : ∃ Z, Hid (ink D4 (iFlag yd) = Z) := ⟨_, rfl⟩
      have HL5 : Hid (D5.1.length ≤ D4.1.length + 6) := by show _ ≤ _; rw [← HD5.out, ink_length]; have := iFlag_length yd; omega
      rw [HD1.out, HD2.out, HD3.out, HD4.out, HD5.out] at HNX
      go_wp2_with fail
      obtain ⟨wa, HWA⟩ : ∃ wa, Hid (wr.alloc (.cells #[.int .i64 yk, .int .i64 yi, .int .i64 yp, .string (bstr yn), .bool yd, .slice oA yo.length oC] 55) = wa) := ⟨_, rfl⟩
      have HR : Hid (wa.drew.rowIs wr.heap.size 55 6 (fun i => (#[.int .i64 yk, .int .i64 yi, .int .i64 yp, .string (bstr yn), .bool yd, .slice oA yo.length oC][i]?).getD undef)) := by
        show wa.drew.rowIs _ _ _ _
        rw [← HWA.out]
        exact (World.rowIs_alloc wr _ _ _ (fun i hi => by rw [Array.getElem?_eq_getElem hi]; rfl)).drew
      have HWR : Hid (WrAt W g D O2 wa.drew) := by
        show WrAt W g D O2 wa.drew
        rw [← HWA.out]
        exact (HOUT.out.below ((Below.refl _ _).alloc (Nat.le_refl _) _)).drew
      have HSTA : Hid (Step O2 O2 wr wa.drew) := by
        show Step O2 O2 wr wa.drew
        rw [← HWA.out]
        exact Step.of_below ((Below.refl _ _).alloc (Nat.le_refl _) _).drew
      have HKC : Hid (¬ O2 wr.heap.size) := fun hh => by have := (HOUT.out.2.2.1 _ hh).2; omega
      rw [HWA.out]
      clear q0 q1 q2 q3 q4 q5
      obtain ⟨kc, HKE⟩ : ∃ kc, Hid (wr.heap.size = kc) := ⟨_, rfl⟩
      rw [HKE.out] at HR HKC ⊢
      have e0 : ∀ e : ExtK (keepBlocks [kc]) wa.drew, e.val.cell? ⟨kc, 0, none⟩ = some (.int .i64 yk) := fun e => (cell_of_block (e.property.2 kc (by simp)) 0).trans ((HR.out.cell (i := 0) (by omega)).trans rfl)
      have e1 : ∀ e : ExtK (keepBlocks [kc]) wa.drew, e.val.cell? ⟨kc, 1, none⟩ = some (.int .i64 yi) := fun e => (cell_of_block (e.property.2 kc (by simp)) 1).trans ((HR.out.cell (i := 1) (by omega)).trans rfl)
      have e2 : ∀ e : ExtK (keepBlocks [kc]) wa.drew, e.val.cell? ⟨kc, 2, none⟩ = some (.int .i64 yp) := fun e => (cell_of_block (e.property.2 kc (by simp)) 2).trans ((HR.out.cell (i := 2) (by omega)).trans rfl)
      have e3 : ∀ e : ExtK (keepBlocks [kc]) wa.drew, e.val.cell? ⟨kc, 3, none⟩ = some (.string (bstr yn)) := fun e => (cell_of_block (e.property.2 kc (by simp)) 3).trans ((HR.out.cell (i := 3) (by omega)).trans rfl)
      have e4 : ∀ e : ExtK (keepBlocks [kc]) wa.drew, e.val.cell? ⟨kc, 4, none⟩ = some (.bool yd) := fun e => (cell_of_block (e.property.2 kc (by simp)) 4).trans ((HR.out.cell (i := 4) (by omega)).trans rfl)
      have e5 : ∀ e : ExtK (keepBlocks [kc]) wa.drew, e.val.cell? ⟨kc, 5, none⟩ = some (.slice oA yo.length oC) := fun e => (cell_of_block (e.property.2 kc (by simp)) 5).trans ((HR.out.cell (i := 5) (by omega)).trans rfl)
      refine wp_region_held_lit (keepBlocks [kc]) [(0, true), (1, true), (2, true), (4, true), (5, true), (7, true), (8, true), (10, true), (11, true), (13, true), (14, true), (16, true), (17, true), (3, false), (6, false), (9, false), (12, false), (15, false), (18, false)] (by kernel_rfl) (by kernel_rfl) (fun _ _ d _ _ h => by cases d <;> exact h) ?_
      simp only [picked, List.map_cons, List.map_nil, List.getElem?_cons_succ, List.getElem?_cons_zero, Option.getD_some]
      repeat (first | (refine wpH_quiet (by rfl) (fun K hK => ?_); go_big_quiet_op; refine hK _ ?_; clear hK K) | (refine wpH_skip (by rfl) ?_; simp only [Act.put, List.setIfInBounds_toArray, List.set_cons_zero, List.set_cons_succ]))
      clear e0 e1 e2 e3 e4 e5
      refine wpH_one (by rfl) (fun K hK => ?_)
      go_simp
      refine (wrNum_any W g D O2 yk (by have := HGT.out;  omega) _ HWR.out).mono ?_
      rintro e u1w ⟨rfl, P1, h1, s1⟩
      have H1w := Lib.hid h1; have S1w := Lib.hid s1; clear h1 s1
      rw [HD1.out] at H1w
      have HK1 : Hid (kc < wa.drew.heap.size ∧ ¬ O2 kc) := ⟨HR.out.lt, HKC.out⟩
      refine hK _ _ (keep_one S1w.out.size (S1w.out.block kc HK1.out.1 HK1.out.2)) ?_
      clear hK K
      repeat (first | (refine wpH_quiet (by rfl) (fun K hK => ?_); go_big_quiet_op; refine hK _ ?_; clear hK K) | (refine wpH_skip (by rfl) ?_; simp only [Act.put, List.setIfInBounds_toArray, List.set_cons_zero, List.set_cons_succ]))
      refine wpH_one (by rfl) (fun K hK => ?_)
      go_simp
      refine (wrNum_any W g D1 P1 yi (by have := HGT.out; have := HL1.out; omega) _ H1w.out).mono ?_
      rintro e u2w ⟨rfl, P2, h2, s2⟩
      have H2w := Lib.hid h2; have S2w := Lib.hid s2; clear h2 s2
      rw [HD2.out] at H2w
      have HK2 : Hid (kc < u1w.heap.size ∧ ¬ P1 kc) := ⟨Nat.lt_of_lt_of_le HK1.out.1 S1w.out.size, fun hh => HK1.out.2 (S1w.out.own kc HK1.out.1 hh)⟩
      refine hK _ _ (keep_one S2w.out.size (S2w.out.block kc HK2.out.1 HK2.out.2)) ?_
      clear hK K
      repeat (first | (refine wpH_quiet (by rfl) (fun K hK => ?_); go_big_quiet_op; refine hK _ ?_; clear hK K) | (refine wpH_skip (by rfl) ?_; simp only [Act.put, List.setIfInBounds_toArray, List.set_cons_zero, List.set_cons_succ]))
      refine wpH_one (by rfl) (fun K hK => ?_)
      go_simp
      refine (wrNum_any W g D2 P2 yp (by have := HGT.out; have := HL1.out; have := HL2.out; omega) _ H2w.out).mono ?_
      rintro e u3w ⟨rfl, P3, h3, s3⟩
      have H3w := Lib.hid h3; have S3w := Lib.hid s3; clear h3 s3
      rw [HD3.out] at H3w
      have HK3 : Hid (kc < u2w.heap.size ∧ ¬ P2 kc) := ⟨Nat.lt_of_lt_of_le HK2.out.1 S2w.out.size, fun hh => HK2.out.2 (S2w.out.own kc HK2.out.1 hh)⟩
      refine hK _ _ (keep_one S3w.out.size (S3w.out.block kc HK3.out.1 HK3.out.2)) ?_
      clear hK K
      repeat (first | (refine wpH_quiet (by rfl) (fun K hK => ?_); go_big_quiet_op; refine hK _ ?_; clear hK K) | (refine wpH_skip (by rfl) ?_; simp only [Act.put, List.setIfInBounds_toArray, List.set_cons_zero, List.set_cons_succ]))
      refine wpH_one (by rfl) (fun K hK => ?_)
      go_simp
      refine (wrText_any W g D3 P3 yn HGK.out.2.2.2.1.1 (by have := HGT.out; have := HL1.out; have := HL2.out; have := HL3.out; omega) _ H3w.out).mono ?_
      rintro e u4w ⟨rfl, P4, h4, s4⟩
      have H4w := Lib.hid h4; have S4w := Lib.hid s4; clear h4 s4
      rw [HD4.out] at H4w
      have HK4 : Hid (kc < u3w.heap.size ∧ ¬ P3 kc) := ⟨Nat.lt_of_lt_of_le HK3.out.1 S3w.out.size, fun hh => HK3.out.2 (S3w.out.own kc HK3.out.1 hh)⟩
      refine hK _ _ (keep_one S4w.out.size (S4w.out.block kc HK4.out.1 HK4.out.2)) ?_
      clear hK K
      repeat (first | (refine wpH_quiet (by rfl) (fun K hK => ?_); go_big_quiet_op; refine hK _ ?_; clear hK K) | (refine wpH_skip (by rfl) ?_; simp only [Act.put, List.setIfInBounds_toArray, List.set_cons_zero, List.set_cons_succ]))
      refine wpH_one (by rfl) (fun K hK => ?_)
      go_simp
      refine (wrFlag_any W g D4 P4 yd (by have := HGT.out; have := HL1.out; have := HL2.out; have := HL3.out; have := HL4.out; omega) _ H4w.out).mono ?_
      rintro e u5w ⟨rfl, P5, h5, s5⟩
      have H5w := Lib.hid h5; have S5w := Lib.hid s5; clear h5 s5
      rw [HD5.out] at H5w
      have HK5 : Hid (kc < u4w.heap.size ∧ ¬ P4 kc) := ⟨Nat.lt_of_lt_of_le HK4.out.1 S4w.out.size, fun hh => HK4.out.2 (S4w.out.own kc HK4.out.1 hh)⟩
      refine hK _ _ (keep_one S5w.out.size (S5w.out.block kc HK5.out.1 HK5.out.2)) ?_
      clear hK K
      repeat (first | (refine wpH_quiet (by rfl) (fun K hK => ?_); go_big_quiet_op; refine hK _ ?_; clear hK K) | (refine wpH_skip (by rfl) ?_; simp only [Act.put, List.setIfInBounds_toArray, List.set_cons_zero, List.set_cons_succ]))
      refine wpH_one (by rfl) (fun K hK => ?_)
      go_simp
      refine (wrComps_any W g D5 P5 oA yo oC HGK.out.2.2.2.2.1 (by have := HGT.out; have := HL1.out; have := HL2.out; have := HL3.out; have := HL4.out; have := HL5.out; omega) HOPS.out _ H5w.out).mono ?_
      rintro e u6w ⟨rfl, P6, h6, s6⟩
      have H6w := Lib.hid h6; have S6w := Lib.hid s6; clear h6 s6
      have HK6 : Hid (kc < u5w.heap.size ∧ ¬ P5 kc) := ⟨Nat.lt_of_lt_of_le HK5.out.1 S5w.out.size, fun hh => HK5.out.2 (S5w.out.own kc HK5.out.1 hh)⟩
      refine hK _ _ (keep_one S6w.out.size (S6w.out.block kc HK6.out.1 HK6.out.2)) ?_
      clear hK K
      repeat (first | (refine wpH_quiet (by rfl) (fun K hK => ?_); go_big_quiet_op; refine hK _ ?_; clear hK K) | (refine wpH_skip (by rfl) ?_; simp only [Act.put, List.setIfInBounds_toArray, List.set_cons_zero, List.set_cons_succ]))
      refine wpH_nil ?_
      go_wp2
      go_roundw
      case rel => exact ⟨k + 1, by omega, by go_num, P6, by rw [HNX.out]; exact H6w.out, HST2.out.trans (HSTA.out.trans (S1w.out.trans (S2w.out.trans (S3w.out.trans (S4w.out.trans (S5w.out.trans S6w.out))))))⟩
      case measure => simp [intOf]; omega
    · obtain rfl : k = l.length := by omega
      rw [List.take_length] at HOUT
      go_wp2
      go_ret
      exact ⟨rfl, O2, HOUT.out, HST2.out⟩
end Go.Proofs.Ytkapfijokmajlaa

/- The contract of the statements' own written, over the items that they are called with: the bytes of all of them, as the landed writer tells them. Condition: no more than 2^40 bytes in all. -/
namespace Go.Proofs.Ytkapfijokmajlaa
open Go.RowKit Go.Deep

/-- What written answers. -/
def WrittenEnd (B : Nat) (c : Ink) (w' : World) (e : Ending) : Prop :=
  c.2 = true ∧ e = .returned (.tuple #[.slice none 0 0, .bool false]) ∨ c.2 = false ∧ ∃ A k, e = .returned (.tuple #[.slice A c.1.length k, .bool true]) ∧ w'.ownsRow B 5 1 (.slice A c.1.length k) c.1.length (u8s c.1)

set_option maxHeartbeats 4000000 in
set_option maxRecDepth 100000 in
theorem written_row (b bo cap : Nat) (l : List ItemV) (hln : l.length ≤ 3000) (hg : ∀ y ∈ l, y.Good) (hl : (l.map roomItem).sum ≤ 1099511627000) (w : World) (hA : ItemsAt w (some ⟨b, bo, none⟩) l) :
    Calls Try.prog 9 #[.slice (some ⟨b, bo, none⟩) l.length cap] w fun e w' => WrittenEnd w.heap.size (inks (l.map iItem)) w' e ∧ Below w.heap.size w w' := by
  have HA := Lib.hid hA; clear hA
  have HG := Lib.hid hg; clear hg
  have HL := Lib.hid hl; clear hl
  obtain ⟨CE, HCE⟩ : ∃ CE, Hid (inks (l.map iItem) = CE) := ⟨_, rfl⟩
  rw [HCE.out]
  have HCEL : Hid (CE.1.length ≤ 70368744177664) := by
    show CE.1.length ≤ _
    rw [← HCE.out]
    have h1 := inks_length iItem roomItem iItem_length l
    have := HL.out
    omega
  have GD := Lib.hid (fun O w' (hh : WrAt w w.heap.size CE O w') => wrDone_any w w.heap.size CE O HCEL.out w' hh)
  go_enter Try.func9, Try.ntmps9
  go_wp2
  go_loopw [5] (fun i wr => ∃ k : Nat, k ≤ l.length ∧ i = .int .i64 k ∧ ∃ O, WrAt w w.heap.size (inks ((l.take k).map iItem)) O wr) (fun i _ => l.length - (intOf i).toNat)
  case atStart => exact ⟨0, Nat.zero_le _, rfl, _, by rw [List.take_zero, List.map_nil, inks]; exact WrAt.start w⟩
  case round =>
    obtain ⟨k, hk, rfl, O1, hout⟩ := hrel
    have HOUT := Lib.hid hout; clear hout
    by_cases hlt : k < l.length
    · have HST := Lib.hid (inks_take iItem l k hlt)
      have HLEN : Hid ((inks ((l.take k).map iItem)).1.length + roomItem l[k] ≤ 1099511627000) := by
        show _ ≤ _
        have h1 := inks_length iItem roomItem iItem_length (l.take k)
        have h2 := sum_take_le roomItem l k hlt
        have := HL.out
        omega
      obtain ⟨D, HD⟩ : ∃ D, Hid (inks ((l.take k).map iItem) = D) := ⟨_, rfl⟩
      rw [HD.out] at HOUT HLEN HST
      have hgk := HG.out _ (List.getElem_mem hlt)
      have hats := HA.out.2 _ (List.getElem_mem hlt)
      have hcells := fun f hf => (HA.out.below HOUT.out.upto).at_ hlt f hf
      obtain ⟨Y, HY⟩ : ∃ Y, Hid (l[k] = Y) := ⟨l[k], Lib.hid rfl⟩
      rw [HY.out] at hgk hats HLEN HST
      simp only [HY.out] at hcells
      obtain ⟨yk, yn, ys, yy, cA, cC, cs, aA, aC, as_, nA, nC, ns⟩ := Y
      obtain ⟨_, _, hgs, hgc, hga, hgn, _, _, _⟩ := hgk
      obtain ⟨hatc, hata, hatn⟩ := hats
      simp only at hgs hgc hga hgn hatc hata hatn
      have q0 : wr.cell? ⟨b, bo + k * 7, none⟩ = some (.int .i64 yk) := hcells 0 (by omega)
      have q1 : Hid (wr.cell? ⟨b, bo + k * 7 + 1, none⟩ = some (.int .i64 yn)) := by show _ = _; rw [Nat.add_assoc]; exact hcells 1 (by omega)
      have q2 : Hid (wr.cell? ⟨b, bo + k * 7 + 2, none⟩ = some (.string (bstr ys))) := by show _ = _; rw [Nat.add_assoc]; exact hcells 2 (by omega)
      have q3 : Hid (wr.cell? ⟨b, bo + k * 7 + 3, none⟩ = some (.bool yy)) := by show _ = _; rw [Nat.add_assoc]; exact hcells 3 (by omega)
      have q4 : Hid (wr.cell? ⟨b, bo + k * 7 + 4, none⟩ = some (.slice cA cs.length cC)) := by show _ = _; rw [Nat.add_assoc]; exact hcells 4 (by omega)
      have q5 : Hid (wr.cell? ⟨b, bo + k * 7 + 5, none⟩ = some (.slice aA as_.length aC)) := by show _ = _; rw [Nat.add_assoc]; exact hcells 5 (by omega)
      have q6 : Hid (wr.cell? ⟨b, bo + k * 7 + 6, none⟩ = some (.slice nA ns.length nC)) := by show _ = _; rw [Nat.add_assoc]; exact hcells 6 (by omega)
      have HRM : Hid (D.1.length + (ys.length + 6 + roomComps cs + roomActs as_ + roomNodes ns) ≤ 1099511627000) := HLEN.out
      have HIT : Hid (iItem ⟨yk, yn, ys, yy, cA, cC, cs, aA, aC, as_, nA, nC, ns⟩ = if yk = 1 then iNum yn else if yk = 2 then iText ys else if yk = 3 then iFlag yy else if yk = 4 then iComps cs else if yk = 5 then iActs as_ else if yk = 6 then iNodes ns else noInk) := rfl
      rw [HIT.out] at HST
      have G1 : Hid (Calls Try.prog 12 #[.pointer (some ⟨w.heap.size, 0, none⟩), .int .i64 yn] wr (PutEnd w w.heap.size (ink D (iNum yn)) O1 wr)) := wrNum_any w _ D O1 yn (by have := HRM.out; omega) wr HOUT.out
      have G2 : Hid (Calls Try.prog 32 #[.pointer (some ⟨w.heap.size, 0, none⟩), .string (bstr ys)] wr (PutEnd w w.heap.size (ink D (iText ys)) O1 wr)) := wrText_any w _ D O1 ys hgs.1 (by have := HRM.out; omega) wr HOUT.out
      have G3 : Hid (Calls Try.prog 39 #[.pointer (some ⟨w.heap.size, 0, none⟩), .bool yy] wr (PutEnd w w.heap.size (ink D (iFlag yy)) O1 wr)) := wrFlag_any w _ D O1 yy (by have := HRM.out; omega) wr HOUT.out
      have G4 : Hid (Calls Try.prog 40 #[.pointer (some ⟨w.heap.size, 0, none⟩), .slice cA cs.length cC] wr (PutEnd w w.heap.size (ink D (iComps cs)) O1 wr)) := wrComps_any w _ D O1 cA cs cC hgc (by have := HRM.out; omega) hatc wr HOUT.out
      have G5 : Hid (Calls Try.prog 41 #[.pointer (some ⟨w.heap.size, 0, none⟩), .slice aA as_.length aC] wr (PutEnd w w.heap.size (ink D (iActs as_)) O1 wr)) := wrActs_any w _ D O1 aA as_ aC hga (by have := HRM.out; omega) hata wr HOUT.out
      have G6 : Hid (Calls Try.prog 42 #[.pointer (some ⟨w.heap.size, 0, none⟩), .slice nA ns.length nC] wr (PutEnd w w.heap.size (ink D (iNodes ns)) O1 wr)) := wrNodes_any w _ D O1 nA ns nC hgn (by have := HRM.out; omega) hatn wr HOUT.out
      clear hgs hgc hga hgn hatc hata hatn hcells
      by_cases hk1 : yk = 1
      · subst hk1
        have HNX : Hid (inks ((l.take (k + 1)).map iItem) = ink D (iNum yn)) := by show _ = _; rw [HST.out, if_pos rfl]
        have qq := q1.out
        go_wp2_with fail
        refine G1.out.mono ?_
        rintro e w2 ⟨rfl, O2, h2, _⟩
        have H2 := Lib.hid h2; clear h2 q0 qq
        go_wp2
        go_roundw
        case rel => exact ⟨k + 1, by omega, by go_num, O2, by rw [HNX.out]; exact H2.out⟩
        case measure => simp [intOf]; omega
      by_cases hk2 : yk = 2
      · subst hk2
        have HNX : Hid (inks ((l.take (k + 1)).map iItem) = ink D (iText ys)) := by show _ = _; rw [HST.out, if_neg (by omega), if_pos rfl]
        have qq := q2.out
        go_wp2_with fail
        refine G2.out.mono ?_
        rintro e w2 ⟨rfl, O2, h2, _⟩
        have H2 := Lib.hid h2; clear h2 q0 qq
        go_wp2
        go_roundw
        case rel => exact ⟨k + 1, by omega, by go_num, O2, by rw [HNX.out]; exact H2.out⟩
        case measure => simp [intOf]; omega
      by_cases hk3 : yk = 3
      · subst hk3
        have HNX : Hid (inks ((l.take (k + 1)).map iItem) = ink D (iFlag yy)) := by show _ = _; rw [HST.out, if_neg (by omega), if_neg (by omega), if_pos rfl]
        have qq := q3.out
        go_wp2_with fail
        refine G3.out.mono ?_
        rintro e w2 ⟨rfl, O2, h2, _⟩
        have H2 := Lib.hid h2; clear h2 q0 qq
        go_wp2
        go_roundw
        case rel => exact ⟨k + 1, by omega, by go_num, O2, by rw [HNX.out]; exact H2.out⟩
        case measure => simp [intOf]; omega
      by_cases hk4 : yk = 4
      · subst hk4
        have HNX : Hid (inks ((l.take (k + 1)).map iItem) = ink D (iComps cs)) := by show _ = _; rw [HST.out, if_neg (by omega), if_neg (by omega), if_neg (by omega), if_pos rfl]
        have qq := q4.out
        go_wp2_with fail
        refine G4.out.mono ?_
        rintro e w2 ⟨rfl, O2, h2, _⟩
        have H2 := Lib.hid h2; clear h2 q0 qq
        go_wp2
        go_roundw
        case rel => exact ⟨k + 1, by omega, by go_num, O2, by rw [HNX.out]; exact H2.out⟩
        case measure => simp [intOf]; omega
      by_cases hk5 : yk = 5
      · subst hk5
        have HNX : Hid (inks ((l.take (k + 1)).map iItem) = ink D (iActs as_)) := by show _ = _; rw [HST.out, if_neg (by omega), if_neg (by omega), if_neg (by omega), if_neg (by omega), if_pos rfl]
        have qq := q5.out
        go_wp2_with fail
        refine G5.out.mono ?_
        rintro e w2 ⟨rfl, O2, h2, _⟩
        have H2 := Lib.hid h2; clear h2 q0 qq
        go_wp2
        go_roundw
        case rel => exact ⟨k + 1, by omega, by go_num, O2, by rw [HNX.out]; exact H2.out⟩
        case measure => simp [intOf]; omega
      by_cases hk6 : yk = 6
      · subst hk6
        have HNX : Hid (inks ((l.take (k + 1)).map iItem) = ink D (iNodes ns)) := by show _ = _; rw [HST.out, if_neg (by omega), if_neg (by omega), if_neg (by omega), if_neg (by omega), if_neg (by omega), if_pos rfl]
        have qq := q6.out
        go_wp2_with fail
        refine G6.out.mono ?_
        rintro e w2 ⟨rfl, O2, h2, _⟩
        have H2 := Lib.hid h2; clear h2 q0 qq
        go_wp2
        go_roundw
        case rel => exact ⟨k + 1, by omega, by go_num, O2, by rw [HNX.out]; exact H2.out⟩
        case measure => simp [intOf]; omega
      · have HNX : Hid (inks ((l.take (k + 1)).map iItem) = D) := by show _ = _; rw [HST.out, if_neg hk1, if_neg hk2, if_neg hk3, if_neg hk4, if_neg hk5, if_neg hk6, ink_none]
        go_wp2
        go_roundw
        case rel => exact ⟨k + 1, by omega, by go_num, O1, by rw [HNX.out]; exact HOUT.out⟩
        case measure => simp [intOf]; omega
    · obtain rfl : k = l.length := by omega
      rw [List.take_length, HCE.out] at HOUT
      go_wp2_with fail
      refine (GD.out _ _ HOUT.out).mono ?_
      rintro e w2 ⟨hd, hb⟩
      have HB := Lib.hid hb; clear hb
      rcases hd with ⟨h1, rfl⟩ | ⟨h1, A5, k5, rfl, ho5⟩
      · have HH := Lib.hid h1; clear h1
        go_wp2
        go_ret2
        exact ⟨.inl ⟨HH.out, rfl⟩, HOUT.out.upto.trans (HB.out.mono HOUT.out.upto.size)⟩
      · have HH := Lib.hid h1; clear h1
        have HO5 := Lib.hid ho5; clear ho5
        go_wp2
        go_ret2
        exact ⟨.inr ⟨HH.out, A5, k5, rfl, HO5.out.mono HOUT.out.upto.size⟩, HOUT.out.upto.trans (HB.out.mono HOUT.out.upto.size)⟩
end Go.Proofs.Ytkapfijokmajlaa
