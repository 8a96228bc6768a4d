/- An act by value as an argument. No condition. (Merged of 12 texts.) -/
import Derived.Test.YtjpjdkdbgjipnaaGreatDoorU48
import Derived.Test.YtjpjdkdbgjipnaaGreatDoorU6
import Derived.Deep.DeepAppendWide
import Derived.Laws.OwnMore
import Derived.Deep.AppendLies
namespace Go.Proofs.YtjpjdkdbgjipnaaGreatDoor
open Go.ChangeShapes Go.WideShapes Go.ChangeAt Go.RowKit Go.Deep
structure NodeV where
 id : Int
 parent : Int
 name : List Nat
 dir : Bool
 text : List Nat
instance : Inhabited NodeV := ⟨⟨0, 0, [], false, []⟩⟩
section
variable {H : Type} {enc : TypeId × Value → H} {w : World}
end
structure ActV where
 kind : Int
 id : Int
 parent : Int
 name : List Nat
 dir : Bool
 opsA : Option Addr
 opsC : Nat
 ops : List CompV
instance : Inhabited ActV := ⟨⟨0, 0, 0, [], false, none, 0, []⟩⟩
def ActV.Good (c : ActV) : Prop := Fit64 c.kind ∧ Fit64 c.id ∧ Fit64 c.parent ∧ Bytes c.name ∧ (∀ y ∈ c.ops, y.Good) ∧ c.ops.length ≤ c.opsC ∧ c.opsC ≤ maxLen
def yy0 (c : ActV) : List Value := [.int .i64 c.kind, .int .i64 c.id, .int .i64 c.parent, .string (bstr c.name), .bool c.dir, .slice c.opsA c.ops.length c.opsC]
theorem yy16 (c : ActV) : (yy0 c).length = 6 := rfl
def ActsAt (w : World) (A : Option Addr) (l : List ActV) : Prop := yy7 w A (l.flatMap yy0) ∧ ∀ y ∈ l, yy8 w y.opsA y.ops
theorem ActsAt.below {w w' : World} {A : Option Addr} {l : List ActV} (h : ActsAt w A l) (hb : Below w.heap.size w w') : ActsAt w' A l := ⟨yy7.below h.1 hb, fun y hy => (h.2 y hy).below hb⟩
theorem ActsAt.drew {w : World} {A : Option Addr} {l : List ActV} (h : ActsAt w A l) : ActsAt w.drew A l := h
theorem ActsAt.form {w : World} {A : Option Addr} {l : List ActV} (h : ActsAt w A l) (h0 : 0 < l.length) : ∃ b off, A = some ⟨b, off, none⟩ ∧ b < w.heap.size :=
 yy7.form h.1 (by intro e; have := congrArg List.length e; rw [yy30 yy0 6 yy16] at this; simp at this; omega)
theorem ActsAt.at_ {w : World} {b off : Nat} {l : List ActV} (h : ActsAt w (some ⟨b, off, none⟩) l) {i : Nat} (hi : i < l.length) :
  w.cell? ⟨b, off + i * 6, none⟩ = some (.int .i64 l[i].kind) ∧ w.cell? ⟨b, off + i * 6 + 1, none⟩ = some (.int .i64 l[i].id) ∧ w.cell? ⟨b, off + i * 6 + 2, none⟩ = some (.int .i64 l[i].parent) ∧
   w.cell? ⟨b, off + i * 6 + 3, none⟩ = some (.string (bstr l[i].name)) ∧ w.cell? ⟨b, off + i * 6 + 4, none⟩ = some (.bool l[i].dir) ∧ w.cell? ⟨b, off + i * 6 + 5, none⟩ = some (.slice l[i].opsA l[i].ops.length l[i].opsC) := by
 refine ⟨?_, ?_, ?_, ?_, ?_, ?_⟩
 ·exact yy7.cell h.1 (j := i * 6 + 0) (by rw [flat_get yy0 6 yy16 l i hi 0 (by omega)]; rfl)
 ·rw [Nat.add_assoc]; exact yy7.cell h.1 (by rw [flat_get yy0 6 yy16 l i hi 1 (by omega)]; rfl)
 ·rw [Nat.add_assoc]; exact yy7.cell h.1 (by rw [flat_get yy0 6 yy16 l i hi 2 (by omega)]; rfl)
 ·rw [Nat.add_assoc]; exact yy7.cell h.1 (by rw [flat_get yy0 6 yy16 l i hi 3 (by omega)]; rfl)
 ·rw [Nat.add_assoc]; exact yy7.cell h.1 (by rw [flat_get yy0 6 yy16 l i hi 4 (by omega)]; rfl)
 ·rw [Nat.add_assoc]; exact yy7.cell h.1 (by rw [flat_get yy0 6 yy16 l i hi 5 (by omega)]; rfl)
section
variable {H : Type} {enc : TypeId × Value → H} {w : World}
set_option maxRecDepth 100000 in
theorem yy124 {fuel : Nat} {cs : List Value} {x : DataW H × List MemPlace} (h : DataW.trod enc Tryz.prog w 0 (fun _ => true) true fuel 22 cs = some x) (hlt : ∀ p ∈ x.2, p.block < w.heap.size) :
  ∃ A l c, cs = [.slice A (List.length l) c] ∧ ActsAt w A l ∧ (∀ y ∈ l, y.Good) ∧ l.length ≤ c ∧ c ≤ maxLen := by
 obtain ⟨A, n, cap, m, rfl, hn, hcap, hform, hrec⟩ := yy95 (k := 6) Tryz.underlying22 Tryz.underlying26 (by kernel_rfl) h hlt
 have each : ∀ i, i < n → ∃ y : ActV, (y.Good ∧ yy8 w y.opsA y.ops) ∧ ∀ b off, A = some ⟨b, off, none⟩ → ∀ j, j < 6 → w.cell? ⟨b, off + (i * 6 + j), none⟩ = (yy0 y)[j]? := by
  intro i hi
  obtain ⟨R, hR, hcell, hf⟩ := hrec i hi
  obtain ⟨y0, h0, _⟩ := hf 0 _ rfl
  obtain ⟨y1, h1, _⟩ := hf 1 _ rfl
  obtain ⟨y2, h2, _⟩ := hf 2 _ rfl
  obtain ⟨y3, h3, _⟩ := hf 3 _ rfl
  obtain ⟨y4, h4, _⟩ := hf 4 _ rfl
  obtain ⟨y5, h5, p5⟩ := hf 5 _ rfl
  obtain ⟨k0, e0, w0⟩ := yy89 (o := 0) h0
  obtain ⟨k1, e1, w1⟩ := yy89 (o := 1) h1
  obtain ⟨k2, e2, w2⟩ := yy89 (o := 2) h2
  obtain ⟨l3, e3, w3⟩ := yy259 (o := 3) h3
  obtain ⟨b4, e4⟩ := yy163 (o := 4) h4
  obtain ⟨A5, l5, c5, e5, at5, g5, n5, m5⟩ := yy260 (o := 5) h5 p5
  match R, hR with
  | [r0, r1, r2, r3, r4, r5], _ =>
   simp only [List.getElem?_cons_zero, List.getElem?_cons_succ, Option.some.injEq] at e0 e1 e2 e3 e4 e5
   subst e0 e1 e2 e3 e4 e5
   exact ⟨⟨k0, k1, k2, l3, b4, A5, c5, l5⟩, ⟨⟨w0, w1, w2, w3, g5, n5, m5⟩, at5⟩, hcell⟩
 obtain ⟨f, hf⟩ := choose_lt each
 refine ⟨A, (List.range n).map f, cap, by simp, ⟨yy139 yy0 6 (by omega) yy16 f hform (fun i hi => (hf i hi).2), ?_⟩, ?_, by simpa using hn, hcap⟩
 ·intro y hy
  obtain ⟨i, hi, rfl⟩ := List.mem_map.1 hy
  exact (hf i (List.mem_range.1 hi)).1.2
 ·intro y hy
  obtain ⟨i, hi, rfl⟩ := List.mem_map.1 hy
  exact (hf i (List.mem_range.1 hi)).1.1
set_option maxRecDepth 100000 in
theorem yy675 {R : List Value} {y : DataW H × List MemPlace} {m o : Nat} (h : DataW.trod enc Tryz.prog w 0 (fun _ => true) true m 22 ((R.drop o).take (Tryz.prog.cellsOf 22)) = some y) (hlt : ∀ p ∈ y.2, p.block < w.heap.size) :
  ∃ A l c, R[o]? = some (.slice A (List.length l) c) ∧ ActsAt w A l ∧ (∀ z ∈ l, z.Good) ∧ l.length ≤ c ∧ c ≤ maxLen := by
 obtain ⟨A, l, c, e, h1⟩ := yy124 h hlt
 rw [show Tryz.prog.cellsOf 22 = 1 by kernel_rfl] at e
 exact ⟨A, l, c, yy131 e, h1⟩
end
structure OneK where
 id : Int
 ops : List CompV
 edited : Bool
 removed : Bool
 created : Bool
 moved : Bool
 parent : Int
 name : List Nat
structure OneV where
 k : OneK
 opsA : Option Addr
 opsC : Nat
instance : Inhabited OneV := ⟨⟨⟨0, [], false, false, false, false, 0, []⟩, none, 0⟩⟩
def OneV.Good (c : OneV) : Prop := Fit64 c.k.id ∧ Fit64 c.k.parent ∧ Bytes c.k.name ∧ (∀ y ∈ c.k.ops, y.Good) ∧ c.k.ops.length ≤ c.opsC ∧ c.opsC ≤ maxLen
def yy5 (c : OneV) : List Value := [.int .i64 c.k.id, .slice c.opsA c.k.ops.length c.opsC, .bool c.k.edited, .bool c.k.removed, .bool c.k.created, .bool c.k.moved, .int .i64 c.k.parent, .string (bstr c.k.name)]
theorem yy18 (c : OneV) : (yy5 c).length = 8 := rfl
def OnesAt (w : World) (A : Option Addr) (l : List OneV) : Prop := yy7 w A (l.flatMap yy5) ∧ ∀ y ∈ l, yy8 w y.opsA y.k.ops
theorem OnesAt.below {w w' : World} {A : Option Addr} {l : List OneV} (h : OnesAt w A l) (hb : Below w.heap.size w w') : OnesAt w' A l := ⟨yy7.below h.1 hb, fun y hy => (h.2 y hy).below hb⟩
theorem OnesAt.drew {w : World} {A : Option Addr} {l : List OneV} (h : OnesAt w A l) : OnesAt w.drew A l := h
theorem OnesAt.form {w : World} {A : Option Addr} {l : List OneV} (h : OnesAt w A l) (h0 : 0 < l.length) : ∃ b off, A = some ⟨b, off, none⟩ ∧ b < w.heap.size :=
 yy7.form h.1 (by intro e; have := congrArg List.length e; rw [yy30 yy5 8 yy18] at this; simp at this; omega)
theorem OnesAt.at_ {w : World} {b off : Nat} {l : List OneV} (h : OnesAt w (some ⟨b, off, none⟩) l) {i : Nat} (hi : i < l.length) :
  w.cell? ⟨b, off + i * 8, none⟩ = some (.int .i64 l[i].k.id) ∧ w.cell? ⟨b, off + i * 8 + 1, none⟩ = some (.slice l[i].opsA l[i].k.ops.length l[i].opsC) ∧ w.cell? ⟨b, off + i * 8 + 2, none⟩ = some (.bool l[i].k.edited) ∧ w.cell? ⟨b, off + i * 8 + 3, none⟩ = some (.bool l[i].k.removed) ∧
   w.cell? ⟨b, off + i * 8 + 4, none⟩ = some (.bool l[i].k.created) ∧ w.cell? ⟨b, off + i * 8 + 5, none⟩ = some (.bool l[i].k.moved) ∧ w.cell? ⟨b, off + i * 8 + 6, none⟩ = some (.int .i64 l[i].k.parent) ∧ w.cell? ⟨b, off + i * 8 + 7, none⟩ = some (.string (bstr l[i].k.name)) := by
 refine ⟨?_, ?_, ?_, ?_, ?_, ?_, ?_, ?_⟩
 ·exact yy7.cell h.1 (j := i * 8 + 0) (by rw [flat_get yy5 8 yy18 l i hi 0 (by omega)]; rfl)
 ·rw [Nat.add_assoc]; exact yy7.cell h.1 (by rw [flat_get yy5 8 yy18 l i hi 1 (by omega)]; rfl)
 ·rw [Nat.add_assoc]; exact yy7.cell h.1 (by rw [flat_get yy5 8 yy18 l i hi 2 (by omega)]; rfl)
 ·rw [Nat.add_assoc]; exact yy7.cell h.1 (by rw [flat_get yy5 8 yy18 l i hi 3 (by omega)]; rfl)
 ·rw [Nat.add_assoc]; exact yy7.cell h.1 (by rw [flat_get yy5 8 yy18 l i hi 4 (by omega)]; rfl)
 ·rw [Nat.add_assoc]; exact yy7.cell h.1 (by rw [flat_get yy5 8 yy18 l i hi 5 (by omega)]; rfl)
 ·rw [Nat.add_assoc]; exact yy7.cell h.1 (by rw [flat_get yy5 8 yy18 l i hi 6 (by omega)]; rfl)
 ·rw [Nat.add_assoc]; exact yy7.cell h.1 (by rw [flat_get yy5 8 yy18 l i hi 7 (by omega)]; rfl)
section
variable {H : Type} {enc : TypeId × Value → H} {w : World}
set_option maxRecDepth 100000 in
theorem yy237 {fuel : Nat} {cs : List Value} {x : DataW H × List MemPlace} (h : DataW.trod enc Tryz.prog w 0 (fun _ => true) true fuel 23 cs = some x) (hlt : ∀ p ∈ x.2, p.block < w.heap.size) :
  ∃ A l c, cs = [.slice A (List.length l) c] ∧ OnesAt w A l ∧ (∀ y ∈ l, y.Good) ∧ l.length ≤ c ∧ c ≤ maxLen := by
 obtain ⟨A, n, cap, m, rfl, hn, hcap, hform, hrec⟩ := yy95 (k := 8) Tryz.underlying23 Tryz.underlying55 (by kernel_rfl) h hlt
 have each : ∀ i, i < n → ∃ y : OneV, (y.Good ∧ yy8 w y.opsA y.k.ops) ∧ ∀ b off, A = some ⟨b, off, none⟩ → ∀ j, j < 8 → w.cell? ⟨b, off + (i * 8 + j), none⟩ = (yy5 y)[j]? := by
  intro i hi
  obtain ⟨R, hR, hcell, hf⟩ := hrec i hi
  obtain ⟨y0, h0, _⟩ := hf 0 _ rfl
  obtain ⟨y1, h1, p1⟩ := hf 1 _ rfl
  obtain ⟨y2, h2, _⟩ := hf 2 _ rfl
  obtain ⟨y3, h3, _⟩ := hf 3 _ rfl
  obtain ⟨y4, h4, _⟩ := hf 4 _ rfl
  obtain ⟨y5, h5, _⟩ := hf 5 _ rfl
  obtain ⟨y6, h6, _⟩ := hf 6 _ rfl
  obtain ⟨y7, h7, _⟩ := hf 7 _ rfl
  obtain ⟨k0, e0, w0⟩ := yy89 (o := 0) h0
  obtain ⟨A1, l1, c1, e1, at1, g1, n1, m1⟩ := yy260 (o := 1) h1 p1
  obtain ⟨b2, e2⟩ := yy163 (o := 2) h2
  obtain ⟨b3, e3⟩ := yy163 (o := 3) h3
  obtain ⟨b4, e4⟩ := yy163 (o := 4) h4
  obtain ⟨b5, e5⟩ := yy163 (o := 5) h5
  obtain ⟨k6, e6, w6⟩ := yy89 (o := 6) h6
  obtain ⟨l7, e7, w7⟩ := yy259 (o := 7) h7
  match R, hR with
  | [r0, r1, r2, r3, r4, r5, r6, r7], _ =>
   simp only [List.getElem?_cons_zero, List.getElem?_cons_succ, Option.some.injEq] at e0 e1 e2 e3 e4 e5 e6 e7
   subst e0 e1 e2 e3 e4 e5 e6 e7
   exact ⟨⟨⟨k0, l1, b2, b3, b4, b5, k6, l7⟩, A1, c1⟩, ⟨⟨w0, w6, w7, g1, n1, m1⟩, at1⟩, hcell⟩
 obtain ⟨f, hf⟩ := choose_lt each
 refine ⟨A, (List.range n).map f, cap, by simp, ⟨yy139 yy5 8 (by omega) yy18 f hform (fun i hi => (hf i hi).2), ?_⟩, ?_, by simpa using hn, hcap⟩
 ·intro y hy
  obtain ⟨i, hi, rfl⟩ := List.mem_map.1 hy
  exact (hf i (List.mem_range.1 hi)).1.2
 ·intro y hy
  obtain ⟨i, hi, rfl⟩ := List.mem_map.1 hy
  exact (hf i (List.mem_range.1 hi)).1.1
end
end Go.Proofs.YtjpjdkdbgjipnaaGreatDoor
namespace Go.Proofs.YtjpjdkdbgjipnaaGreatDoor
def okByte (x : Nat) : Prop := (97 ≤ x ∧ x ≤ 122) ∨ (48 ≤ x ∧ x ≤ 57) ∨ x = 46 ∨ x = 45 ∨ x = 95
instance (x : Nat) : Decidable (okByte x) := by unfold okByte; infer_instance
def IsName (s : List Nat) : Prop := 1 ≤ s.length ∧ s.length ≤ 20 ∧ s ≠ [46] ∧ s ≠ [46, 46] ∧ ∀ x ∈ s, okByte x
instance (s : List Nat) : Decidable (IsName s) := by unfold IsName; infer_instance
def rName (s : List Nat) : Bool := decide (IsName s)
theorem yy407 {s : List Nat} (h : IsName s) : rName s = true := decide_eq_true h
theorem yy507 {s : List Nat} (h : ¬ IsName s) : rName s = false := decide_eq_false h
def rFind (l : List NodeV) (id : Int) : Option Nat := l.findIdx? (fun y => decide (y.id = id))
def rChild (l : List NodeV) (parent : Int) (name : List Nat) : Int := match l.find? (fun y => decide (y.parent = parent ∧ y.name = name)) with
 | some y => y.id
 | none => -1
def wthn (l : List NodeV) (top : Int) : Nat → Int → Bool
 | 0, _ => true
 | n + 1, id => if id = top then true else match rFind l id with
  | none => false
  | some k => wthn l top n ((l[k]?).getD default).parent
def yy645 (l : List NodeV) (id top : Int) : Bool := wthn l top (l.length + 1) id
attribute [irreducible] rFind rChild wthn yy645 IsName okByte
theorem yy149 {x : Nat} : okByte x ↔ (97 ≤ x ∧ x ≤ 122) ∨ (48 ≤ x ∧ x ≤ 57) ∨ x = 46 ∨ x = 45 ∨ x = 95 := by unfold okByte; exact Iff.rfl
theorem yy43 {s : List Nat} : IsName s ↔ 1 ≤ s.length ∧ s.length ≤ 20 ∧ s ≠ [46] ∧ s ≠ [46, 46] ∧ ∀ x ∈ s, okByte x := by unfold IsName; exact Iff.rfl
end Go.Proofs.YtjpjdkdbgjipnaaGreatDoor
namespace Go.Proofs.YtjpjdkdbgjipnaaGreatDoor
open Go.RowKit Go.Deep
theorem yy98 {s t : List Nat} (hs : ∀ x ∈ s, x < 256) (ht : ∀ x ∈ t, x < 256) : ((bstr s).toList == (bstr t).toList) = decide (s = t) := by
 by_cases h : s = t
 ·subst h
  rw [decide_eq_true rfl]
  exact beq_self_eq_true _
 ·rw [decide_eq_false h]
  exact bstr_neq fun e => h (bstr_inj _ _ hs ht e)
set_option maxHeartbeats 4000000 in
set_option maxRecDepth 100000 in
theorem yy442 (s : List Nat) (hb : ∀ x ∈ s, x < 256) (hl : s.length ≤ maxLen) (w : World) :
  Calls Tryz.prog 47 #[.string (bstr s)] w fun e w' => e = .returned (.bool (rName s)) ∧ w = w' := by
 have hsz := bstr_size s
 unfold maxLen at hl
 have HB := xh hb
 obtain ⟨T, HT⟩ : ∃ T, Hid (rName s = T) := ⟨_, xh rfl⟩
 have HNO : Hid (¬ IsName s → T = false) := fun h => by rw [← HT.out]; exact yy507 h
 have HYES : Hid (IsName s → T = true) := fun h => by rw [← HT.out]; exact yy407 h
 rw [HT.out]
 clear HT
 by_cases h0 : s.length = 0
 ·have HF : Hid (T = false) := HNO.out fun h => by rw [yy43] at h; omega
  rw [h0] at hsz
  clear hb
  go_enter Tryz.func47, Tryz.ntmps47
  go_wp2
  go_ret
  exact ⟨by rw [HF.out]; rfl, rfl⟩
 by_cases h20 : 20 < s.length
 ·have HF : Hid (T = false) := HNO.out fun h => by rw [yy43] at h; omega
  clear hb
  go_enter Tryz.func47, Tryz.ntmps47
  go_wp2
  go_ret
  exact ⟨by rw [HF.out]; rfl, rfl⟩
 have e1 := yy98 hb (t := [46]) (by simp)
 have e2 := yy98 hb (t := [46, 46]) (by simp)
 rw [show (bstr [46]).toList = [46] by show ByteArray.toList { data := #[46] } = [46]; first | (decide +kernel) | simp | simp [go_sem]] at e1
 rw [show (bstr [46, 46]).toList = [46, 46] by show ByteArray.toList { data := #[46, 46] } = [46, 46]; first | (decide +kernel) | simp | simp [go_sem]] at e2
 have g0 : ¬ (s.length : Int) < 1 := by omega
 have g20 : ¬ (20 : Int) < (s.length : Int) := by omega
 by_cases d1 : s = [46]
 ·have HF : Hid (T = false) := HNO.out fun h => by rw [yy43] at h; exact h.2.2.1 d1
  rw [decide_eq_true d1] at e1
  clear hb e2 d1
  go_enter Tryz.func47, Tryz.ntmps47
  go_wp2
  go_ret
  exact ⟨by rw [HF.out]; rfl, rfl⟩
 rw [decide_eq_false d1] at e1
 by_cases d2 : s = [46, 46]
 ·have HF : Hid (T = false) := HNO.out fun h => by rw [yy43] at h; exact h.2.2.2.1 d2
  rw [decide_eq_true d2] at e2
  clear hb d1 d2
  go_enter Tryz.func47, Tryz.ntmps47
  go_wp2
  go_ret
  exact ⟨by rw [HF.out]; rfl, rfl⟩
 rw [decide_eq_false d2] at e2
 have HD : Hid (s ≠ [46] ∧ s ≠ [46, 46]) := ⟨d1, d2⟩
 have h20' : s.length ≤ 20 := by omega
 have h1' : 1 ≤ s.length := by omega
 clear hb d1 d2 h20 h0
 go_enter Tryz.func47, Tryz.ntmps47
 go_wp2
 go_loopw [2, 3] (fun r i wr => ∃ k : Nat, k ≤ s.length ∧ r = .bool false ∧ i = .int .i64 (k : Int) ∧ wr = w ∧ Hid (∀ (j x : Nat), j < k → s[j]? = some x → okByte x)) (fun _ i _ => s.length - (intOf i).toNat)
 case atStart => exact ⟨0, Nat.zero_le _, rfl, rfl, rfl, xh (fun j x h => by omega)⟩
 case round =>
  obtain ⟨k, hk, rfl, rfl, rfl, HOK⟩ := hrel
  by_cases hlt : k < s.length
  ·have hdr := List.drop_eq_getElem_cons hlt
   have hby := fun w => byte_at HB.out hdr w
   clear hdr
   have hx : s[k]? = some s[k] := List.getElem?_eq_getElem hlt
   have hc256 := HB.out s[k] (List.getElem_mem hlt)
   generalize s[k] = c at hby hx hc256
   have HX := xh hx
   clear hx
   by_cases hok : okByte c
   ·have HOK2 : Hid (∀ (j x : Nat), j < k + 1 → s[j]? = some x → okByte x) := by
     intro j x hj hjx
     rcases Nat.lt_or_ge j k with g | g
     ·exact HOK.out j x g hjx
     ·obtain rfl : j = k := by omega
      rw [HX.out] at hjx
      obtain rfl := Option.some.inj hjx
      exact hok
    rw [yy149] at hok
    rcases hok with ⟨q1, q2⟩ | ⟨q1, q2⟩ | rfl | rfl | rfl
    ·have r1 : ¬ c < 97 := by omega
     have r2 : ¬ 122 < c := by omega
     go_wp2
     go_roundw
     case rel => exact ⟨k + 1, by omega, rfl, by go_num, trivial, HOK2⟩
     case measure => simp [intOf]; omega
    ·have r1 : c < 97 := by omega
     have r2 : ¬ c < 48 := by omega
     have r3 : ¬ 57 < c := by omega
     go_wp2
     go_roundw
     case rel => exact ⟨k + 1, by omega, rfl, by go_num, trivial, HOK2⟩
     case measure => simp [intOf]; omega
    ·go_wp2
     go_roundw
     case rel => exact ⟨k + 1, by omega, rfl, by go_num, trivial, HOK2⟩
     case measure => simp [intOf]; omega
    ·go_wp2
     go_roundw
     case rel => exact ⟨k + 1, by omega, rfl, by go_num, trivial, HOK2⟩
     case measure => simp [intOf]; omega
    ·go_wp2
     go_roundw
     case rel => exact ⟨k + 1, by omega, rfl, by go_num, trivial, HOK2⟩
     case measure => simp [intOf]; omega
   ·have HF : Hid (T = false) := HNO.out fun h => by
     rw [yy43] at h
     exact hok (h.2.2.2.2 c (List.mem_of_getElem? HX.out))
    rw [yy149] at hok
    have n1 : ((c : Int) != 46) = true := by simp; omega
    have n2 : ((c : Int) != 45) = true := by simp; omega
    have n3 : ((c : Int) != 95) = true := by simp; omega
    rcases (show (c < 97 ∧ c < 48) ∨ (c < 97 ∧ 57 < c ∧ ¬ c < 48) ∨ (¬ c < 97 ∧ 122 < c ∧ ¬ c < 48 ∧ 57 < c) by omega) with ⟨r1, r2⟩ | ⟨r1, r2, r3⟩ | ⟨r1, r2, r3, r4⟩
    ·clear hok
     go_wp2
     go_ret
     exact ⟨by rw [HF.out]; rfl, rfl⟩
    ·clear hok
     go_wp2
     go_ret
     exact ⟨by rw [HF.out]; rfl, rfl⟩
    ·clear hok
     go_wp2
     go_ret
     exact ⟨by rw [HF.out]; rfl, rfl⟩
  ·have HT : Hid (T = true) := HYES.out (yy43.2 ⟨h1', h20', HD.out.1, HD.out.2, fun x hx => by
    obtain ⟨j, hj⟩ := List.getElem?_of_mem hx
    have := (List.getElem?_eq_some_iff.1 hj).1
    exact HOK.out j x (by omega) hj⟩)
   go_wp2
   go_ret
   exact ⟨by rw [HT.out]; rfl, rfl⟩
end Go.Proofs.YtjpjdkdbgjipnaaGreatDoor
namespace Go.Proofs.YtjpjdkdbgjipnaaGreatDoor
end Go.Proofs.YtjpjdkdbgjipnaaGreatDoor
namespace Go.Proofs.YtjpjdkdbgjipnaaGreatDoor
open Go.RowKit Go.Deep
def aKey (a : ActV) : Int × Int × Int × List Nat × Bool × List CompV := (a.kind, a.id, a.parent, a.name, a.dir, a.ops)
noncomputable def sameA (a b : ActV) : Bool := @decide (aKey a = aKey b) (Classical.propDecidable _)
theorem yy150 {a b : ActV} (h : aKey a = aKey b) : sameA a b = true := by unfold sameA; exact @decide_eq_true _ (Classical.propDecidable _) h
theorem yy62 {a b : ActV} (h : ¬ aKey a = aKey b) : sameA a b = false := by unfold sameA; exact @decide_eq_false _ (Classical.propDecidable _) h
noncomputable def sameAs (l m : List ActV) : Bool := @decide (l.map aKey = m.map aKey) (Classical.propDecidable _)
theorem yy310 {l m : List ActV} (h : l.map aKey = m.map aKey) : sameAs l m = true := by unfold sameAs; exact @decide_eq_true _ (Classical.propDecidable _) h
theorem yy409 {l m : List ActV} (h : ¬ l.map aKey = m.map aKey) : sameAs l m = false := by unfold sameAs; exact @decide_eq_false _ (Classical.propDecidable _) h
def aPlain (a : ActV) : ActV :=
 if a.kind = 1 then ⟨1, a.id, a.parent, a.name, a.dir, none, 0, []⟩
 else if a.kind = 2 then ⟨2, a.id, 0, [], false, none, 0, []⟩
 else if a.kind = 3 then ⟨3, a.id, a.parent, a.name, false, none, 0, []⟩
 else if a.kind = 4 then ⟨4, a.id, 0, [], false, a.opsA, a.opsC, a.ops⟩
 else ⟨a.kind, 0, 0, [], false, none, 0, []⟩
theorem yy511 {a : ActV} (h : a.kind = 1) : aPlain a = ⟨1, a.id, a.parent, a.name, a.dir, none, 0, []⟩ := by rw [aPlain, if_pos h]
theorem yy352 {a : ActV} (h : a.kind = 2) : aPlain a = ⟨2, a.id, 0, [], false, none, 0, []⟩ := by rw [aPlain, if_neg (by omega), if_pos h]
theorem yy512 {a : ActV} (h : a.kind = 3) : aPlain a = ⟨3, a.id, a.parent, a.name, false, none, 0, []⟩ := by rw [aPlain, if_neg (by omega), if_neg (by omega), if_pos h]
theorem yy353 {a : ActV} (h : a.kind = 4) : aPlain a = ⟨4, a.id, 0, [], false, a.opsA, a.opsC, a.ops⟩ := by rw [aPlain, if_neg (by omega), if_neg (by omega), if_neg (by omega), if_pos h]
theorem yy513 {a : ActV} (h : a.kind ≠ 1 ∧ a.kind ≠ 2 ∧ a.kind ≠ 3 ∧ a.kind ≠ 4) : aPlain a = ⟨a.kind, 0, 0, [], false, none, 0, []⟩ := by rw [aPlain, if_neg h.1, if_neg h.2.1, if_neg h.2.2.1, if_neg h.2.2.2]
theorem Good.plain {a : ActV} (h : a.Good) : (aPlain a).Good := by
 obtain ⟨h1, h2, h3, h4, h5, h6, h7⟩ := h
 have z : Fit64 0 := by unfold Fit64; omega
 have zb : Bytes [] := ⟨fun x hx => by simp at hx, by simp⟩
 unfold aPlain
 split
 ·exact ⟨show Fit64 1 by unfold Fit64; omega, h2, h3, h4, by simp, by simp, by simp⟩
 split
 ·exact ⟨show Fit64 2 by unfold Fit64; omega, h2, z, zb, by simp, by simp, by simp⟩
 split
 ·exact ⟨show Fit64 3 by unfold Fit64; omega, h2, h3, h4, by simp, by simp, by simp⟩
 split
 ·exact ⟨show Fit64 4 by unfold Fit64; omega, h2, z, zb, h5, h6, h7⟩
 ·exact ⟨h1, z, z, zb, by simp, by simp, by simp⟩
theorem comps_plain {w : World} {a : ActV} (h : yy8 w a.opsA a.ops) : yy8 w (aPlain a).opsA (aPlain a).ops := by
 unfold aPlain
 split
 ·exact .inl rfl
 split
 ·exact .inl rfl
 split
 ·exact .inl rfl
 split
 ·exact h
 ·exact .inl rfl
def ActRow (w : World) (A : Option Addr) (l : List ActV) : Prop := yy7 w A (l.flatMap yy0)
theorem ActRow.below {w w' : World} {A : Option Addr} {l : List ActV} (h : ActRow w A l) (hb : Below w.heap.size w w') : ActRow w' A l := yy7.below h hb
theorem ActRow.form {w : World} {A : Option Addr} {l : List ActV} (h : ActRow w A l) (h0 : 0 < l.length) : ∃ b off, A = some ⟨b, off, none⟩ ∧ b < w.heap.size :=
 yy7.form h (by intro e; have h1 := yy30 yy0 6 yy16 l; rw [e, List.length_nil] at h1; omega)
theorem yy535 : (Tryz.prog.info? 26).map (fun i => (i.zero, i.size, i.bytes)) = some (some (.agg #[.int .i64 0, .int .i64 0, .int .i64 0, .string { data := #[] }, .bool false, .slice none 0 0]), 6, 72) := by kernel_rfl
def OwnA (w : World) (B : Nat) (A : Option Addr) (c : Nat) (l : List ActV) : Prop := w.ownsRow B 26 6 (.slice A l.length c) l.length (l.flatMap yy0)
theorem yy364 (l : List ActV) : ∀ u ∈ l.flatMap yy0, u.oneCell' = true := by
 intro u hu
 obtain ⟨y, _, hy⟩ := List.mem_flatMap.1 hu
 simp [yy0] at hy
 rcases hy with rfl | rfl | rfl | rfl | rfl | rfl <;> rfl
theorem OwnA.at_ {w : World} {B c : Nat} {A : Option Addr} {l : List ActV} (h : OwnA w B A c l) : ActRow w A l := yy7.of_own h
theorem OwnA.cap {w : World} {B c : Nat} {A : Option Addr} {l : List ActV} (h : OwnA w B A c l) : l.length ≤ c := by
 rcases h.2 with ⟨e, h0⟩ | ⟨g, cap, cur, e, _, _, hn, _⟩
 ·omega
 ·injection e with _ _ e
  omega
theorem OwnA.empty (w : World) {B : Nat} (h : B ≤ w.heap.size) : OwnA (w.alloc (.cells #[] 26)) B (some ⟨w.heap.size, 0, none⟩) 0 [] := World.ownsRow_lit w #[] 0 h (by simp [maxLen]) rfl
theorem OwnA.nil (w : World) (B : Nat) : OwnA w B none 0 [] := World.ownsRow_nil _ _ _ _
theorem OwnA.below {w w' : World} {B c : Nat} {A : Option Addr} {l : List ActV} (h : OwnA w B A c l) (hb : Below w.heap.size w w') : OwnA w' B A c l := own_below h hb
theorem yy239 {w : World} (base : Nat) (t ty e : TypeId) (i : TypeInfo) (size : Nat) (ht : Tryz.prog.underlying t = some (.slice e)) (hi : Tryz.prog.info? e = some i) (v : Value) (n : Nat) (xs : List Value) (c : Nat) (hown : w.ownsRow base e size v n xs) :
  (Builtin.append_ #[t, t] ty #[v, .slice none 0 c]).run Tryz.prog w = .ok v w := by
 rcases hown.2 with ⟨rfl, rfl⟩ | ⟨g, cap, cur, rfl, _, _, hnc, _⟩
 ·simp [Builtin.append_, run_underlying ht, sizeOf, typeInfo, hi, Builtin.lenOf, Builtin.firstCells]
 ·simp [Builtin.append_, run_underlying ht, sizeOf, typeInfo, hi, Builtin.lenOf, Builtin.firstCells, hnc, storeCells]
set_option maxRecDepth 100000 in
theorem yy318 {w : World} {B c0 : Nat} {A0 : Option Addr} {out : List ActV} (hown : OwnA w B A0 c0 out) (hB : B ≤ w.heap.size) {A : Option Addr} {m : List ActV} (c : Nat) (hA : ActRow w A m) (hlen : out.length + m.length ≤ 1099511627776) (ty : TypeId) :
  ∃ A' c' w', (Builtin.append_ #[22, 22] ty #[.slice A0 out.length c0, .slice A m.length c]).run Tryz.prog w = .ok (.slice A' (out ++ m).length c') w' ∧ OwnA w' B A' c' (out ++ m) ∧ Below B w w' ∧ ∀ (g : Nat) (l : List ActV), g < w.heap.size → (∀ b, A0 = some b → b.block ≠ g) → ActRow w (some ⟨g, 0, none⟩) l → ActRow w' (some ⟨g, 0, none⟩) l := by
 obtain ⟨i0, hi0, hz0, hz1, hz2⟩ := info_parts yy535
 cases A with
 | none =>
  have hm : m = [] := by
   cases m with
   | nil => rfl
   | cons y m =>
    obtain ⟨b, off, e, _⟩ := hA.form (by simp)
    cases e
  subst hm
  refine ⟨A0, c0, w, ?_, ?_, Below.refl _ _, fun _ _ _ _ h => h⟩
  ·rw [List.append_nil]
   exact yy239 B _ ty _ i0 6 Tryz.underlying22 hi0 _ _ _ c hown
  ·rw [List.append_nil]
   exact hown
 | some ad =>
  obtain ⟨v', w', hr, h2, h3, _⟩ := run_append_own_wide (P := Tryz.prog) w B 22 ty 26 i0 (.agg #[.int .i64 0, .int .i64 0, .int .i64 0, .string { data := #[] }, .bool false, .slice none 0 0]) 6 72 Tryz.underlying22 hi0 hz0 hz1 hz2 rfl (by omega)
   _ out.length (out.flatMap yy0) hown ad m.length c (m.flatMap yy0) (yy30 yy0 6 yy16 m) (fun j u hu => by
    rcases hA with h0 | ⟨b, off, e, _, hc⟩
    ·rw [h0] at hu; cases hu
    ·injection e with e
     subst e
     rw [Go.WideShapes.add_plain]
     exact hc j u hu) (yy364 m) (by simp only [maxLen]; omega) (by omega) hB
  have e : out.flatMap yy0 ++ m.flatMap yy0 = (out ++ m).flatMap yy0 := List.flatMap_append.symm
  rw [e, ← List.length_append] at h2
  obtain ⟨A', c', rfl⟩ := own_slice h2
  refine ⟨A', c', w', hr, h2, (Below.refl B w).grown h3 hB (fun k hk => (hown.lt k hk).1), fun g l hg hne h => ?_⟩
  rcases h with h | ⟨b, off, e, hlt, hc⟩
  ·exact .inl h
  ·injection e with e
   injection e with e1 e2
   subst e1 e2
   refine .inr ⟨g, 0, rfl, Nat.lt_of_lt_of_le hlt h3.size, fun j v hj => (h3.cell_far ⟨g, 0 + j, none⟩ hlt ?_).trans (hc j v hj)⟩
   cases A0 with
   | none => intro e; cases e
   | some a =>
    intro e
    injection e with e
    exact hne a rfl e.symm
theorem yy365 {w : World} {B c0 : Nat} {A0 : Option Addr} {out : List ActV} (hown : OwnA w B A0 c0 out) (hB : B ≤ w.heap.size) {A : Option Addr} {m : List ActV} (c : Nat) (hA : ActRow w A m) (hlen : out.length + m.length ≤ 1099511627776) (ty : TypeId) :
  ∃ A' c' w', (Builtin.append_ #[22, 22] ty #[.slice A0 out.length c0, .slice A m.length c]).run Tryz.prog w = .ok (.slice A' (out ++ m).length c') w' ∧ OwnA w' B A' c' (out ++ m) ∧ Below B w w' := by
 obtain ⟨A', c', w', h1, h2, h3, _⟩ := yy318 hown hB c hA hlen ty
 exact ⟨A', c', w', h1, h2, h3⟩
theorem yy459 {w : World} {o : Oper} {a : Act} {K : Act → World → Prop} {Q : Exit → Act → World → Prop} (s x : Operand)
  (ho : o.op = .call { callee := .builtin .append, args := #[s, x], argTypes := #[22, 22] })
  {B c0 : Nat} {A0 : Option Addr} {out : List ActV} (hown : OwnA w B A0 c0 out) (hB : B ≤ w.heap.size) {A : Option Addr} {m : List ActV} (c : Nat) (hA : ActRow w A m) (hlen : out.length + m.length ≤ 1099511627776)
  (hs : a.eval s = .slice A0 out.length c0) (hx : a.eval x = .slice A m.length c)
  (hK : ∀ A' c' w', OwnA w' B A' c' (out ++ m) → Below B w w' → K (a.put o.dst (.slice A' (out ++ m).length c')) w') : o.wp Tryz.prog a w K Q := by
 obtain ⟨A', c', w', hrun, h1, h2⟩ := yy365 hown hB c hA hlen o.type
 unfold Oper.wp execOp
 simp only [ho, resolve, invoke, builtin, Sem.run_bind, Sem.run_pure, Result.andThen_ok, List.map_toArray, List.map_cons, List.map_nil, hs, hx, hrun]
 exact hK A' c' w' h1 h2
theorem yy240 {w : World} {ops : Array Oper} {rest : List Oper} {o : Oper} {a : Act} {Q : Exit → Act → World → Prop} (hgd : o.guard = none) (s x : Operand)
  (ho : o.op = .call { callee := .builtin .append, args := #[s, x], argTypes := #[22, 22] })
  {B c0 : Nat} {A0 : Option Addr} {out : List ActV} (hown : OwnA w B A0 c0 out) (hB : B ≤ w.heap.size) {A : Option Addr} {m : List ActV} (c : Nat) (hA : ActRow w A m) (hlen : out.length + m.length ≤ 1099511627776)
  (hs : a.eval s = .slice A0 out.length c0) (hx : a.eval x = .slice A m.length c)
  (h : ∀ A' c' w', OwnA w' B A' c' (out ++ m) → Below B w w' → wpList Tryz.prog ops Q rest (a.put o.dst (.slice A' (out ++ m).length c')) w') : wpList Tryz.prog ops Q (o :: rest) a w :=
 wpList_plain hgd fun _ hK => yy459 s x ho hown hB c hA hlen hs hx fun A' c' w' h1 h2 => hK _ _ (h A' c' w' h1 h2)
theorem yy229 (x : World) (n : ActV) (g : Nat) (hg : g = x.heap.size) : ActRow (x.alloc (.cells (yy0 n).toArray 26)) (some ⟨g, 0, none⟩) [n] := by
 subst hg
 refine .inr ⟨_, 0, rfl, by simp, fun j v hj => ?_⟩
 rw [cell_of_row _ _ _ _ _ _ (heap_alloc_new x _)]
 simpa using hj
set_option maxRecDepth 100000 in
theorem yy604 {w : World} {B c0 : Nat} {A0 : Option Addr} {out : List ActV} (hown : OwnA w B A0 c0 out) (hB : B ≤ w.heap.size) {ad : Addr} {m : List ActV} (c : Nat) (hA : ActRow w (some ad) m) (hlen : out.length + m.length ≤ 1099511627776) (ty : TypeId) :
  ∃ A' c' w', (Builtin.append_ #[22, 22] ty #[.slice A0 out.length c0, .slice (some ad) m.length c]).run Tryz.prog w = .ok (.slice A' (out ++ m).length c') w' ∧ OwnA w' B A' c' (out ++ m) ∧ Below B w w' ∧ ∀ base size v n xs, w.ownsRow base 60 size v n xs → w'.ownsRow base 60 size v n xs := by
 obtain ⟨i0, hi0, hz0, hz1, hz2⟩ := info_parts yy535
 obtain ⟨v', w', hr, h2, h3, _⟩ := run_append_own_wide (P := Tryz.prog) w B 22 ty 26 i0 (.agg #[.int .i64 0, .int .i64 0, .int .i64 0, .string { data := #[] }, .bool false, .slice none 0 0]) 6 72 Tryz.underlying22 hi0 hz0 hz1 hz2 rfl (by omega)
  _ out.length (out.flatMap yy0) hown ad m.length c (m.flatMap yy0) (yy30 yy0 6 yy16 m) (fun j u hu => by
   rcases hA with h0 | ⟨b, off, e, _, hc⟩
   ·rw [h0] at hu; cases hu
   ·injection e with e
    subst e
    rw [Go.WideShapes.add_plain]
    exact hc j u hu) (yy364 m) (by simp only [maxLen]; omega) (by omega) hB
 have e : out.flatMap yy0 ++ m.flatMap yy0 = (out ++ m).flatMap yy0 := List.flatMap_append.symm
 rw [e, ← List.length_append] at h2
 obtain ⟨A', c', rfl⟩ := own_slice h2
 exact ⟨A', c', w', hr, h2, (Below.refl B w).grown h3 hB (fun k hk => (hown.lt k hk).1), fun base size v n xs h => yy198 h hown (by decide) h3⟩
set_option maxRecDepth 100000 in
theorem yy49 {w : World} {ops : Array Oper} {rest : List Oper} {o : Oper} {a : Act} {Q : Exit → Act → World → Prop} (hgd : o.guard = none) (s x : Operand)
  (ho : o.op = .call { callee := .builtin .append, args := #[s, x], argTypes := #[22, 22] })
  {B c0 : Nat} {A0 : Option Addr} {out : List ActV} (hown : OwnA w B A0 c0 out) (hB : B ≤ w.heap.size) {ad : Addr} {m : List ActV} (c : Nat) (hA : ActRow w (some ad) m) (hlen : out.length + m.length ≤ 1099511627776)
  (hs : a.eval s = .slice A0 out.length c0) (hx : a.eval x = .slice (some ad) m.length c)
  (h : ∀ A' c' w', OwnA w' B A' c' (out ++ m) → Below B w w' → (∀ base size v n xs, w.ownsRow base 60 size v n xs → w'.ownsRow base 60 size v n xs) → wpList Tryz.prog ops Q rest (a.put o.dst (.slice A' (out ++ m).length c')) w') : wpList Tryz.prog ops Q (o :: rest) a w := by
 refine wpList_plain hgd fun K hK => ?_
 obtain ⟨A', c', w', hrun, h1, h2, h3⟩ := yy604 hown hB c hA hlen o.type
 unfold Oper.wp execOp
 simp only [ho, resolve, invoke, builtin, Sem.run_bind, Sem.run_pure, Result.andThen_ok, List.map_toArray, List.map_cons, List.map_nil, hs, hx, hrun]
 exact hK _ _ (h A' c' w' h1 h2 h3)
def getO (l : List OneV) (id : Int) : Int := match l.findIdx? (fun y => decide (y.k.id = id)) with | some k => (k : Int) | none => -1
theorem yy709 {l : List OneV} {id : Int} {k : Nat} (hk : k < l.length) (h : l[k].k.id = id) (hb : ∀ (j : Nat) (hj : j < l.length), j < k → l[j].k.id ≠ id) : getO l id = (k : Int) := by
 have : l.findIdx? (fun y => decide (y.k.id = id)) = some k := by
  rw [List.findIdx?_eq_some_iff_getElem]
  exact ⟨hk, decide_eq_true h, fun j hj => by simpa using hb j (by omega) hj⟩
 unfold getO
 rw [this]
theorem yy623 {l : List OneV} {id : Int} (h : ∀ (j : Nat) (hj : j < l.length), l[j].k.id ≠ id) : getO l id = -1 := by
 have : l.findIdx? (fun y => decide (y.k.id = id)) = none := by
  rw [List.findIdx?_eq_none_iff]
  intro y hy
  obtain ⟨j, hj, e⟩ := List.getElem_of_mem hy
  rw [← e]
  simpa using h j hj
 unfold getO
 rw [this]
set_option maxHeartbeats 1000000 in
set_option maxRecDepth 100000 in
theorem yy332 (A : Option Addr) (c : Nat) (l : List OneV) (id : Int) (hl : l.length ≤ maxLen) (w : World) (hA : OnesAt w A l) :
  Calls Tryz.prog 28 #[.slice A l.length c, .int .i64 id] w fun e w' => e = .returned (.int .i64 (getO l id)) ∧ Below w.heap.size w w' := by
 unfold maxLen at hl
 have HA := xh hA; clear hA
 obtain ⟨T, HT⟩ : ∃ T, Hid (getO l id = T) := ⟨_, xh rfl⟩
 rw [HT.out]
 go_enter Tryz.func28, Tryz.ntmps28
 go_wp2
 go_loopw [5] (fun i wr => ∃ k : Nat, k ≤ l.length ∧ i = .int .i64 (k : Int) ∧ Hid (∀ (j : Nat) (hj : j < l.length), j < k → l[j].k.id ≠ id) ∧ Hid (Below w.heap.size w wr)) (fun i _ => l.length - (intOf i).toNat)
 case atStart => exact ⟨0, Nat.zero_le _, rfl, xh (fun j _ h => absurd h (by omega)), xh (Below.refl _ _)⟩
 case round =>
  obtain ⟨k, hk, rfl, HN, HB⟩ := hrel
  by_cases hlt : k < l.length
  ·obtain ⟨b, off, rfl, _⟩ := HA.out.form (by omega)
   have hltI : (k : Int) < (l.length : Int) := by omega
   have z0 := ((HA.out.below HB.out).at_ hlt).1
   have HHIT : Hid (l[k].k.id = id → T = (k : Int)) := xh (fun h => by rw [← HT.out]; exact yy709 hlt h fun j hj hjk => HN.out j hj hjk)
   have HNEXT : Hid (l[k].k.id ≠ id → ∀ (j : Nat) (hj : j < l.length), j < k + 1 → l[j].k.id ≠ id) := xh (fun h j hj hjk => by
    rcases Nat.lt_or_ge j k with g | g
    ·exact HN.out j hj g
    ·have e : j = k := by omega
     subst e
     exact h)
   generalize l[k].k.id = i at z0 HHIT HNEXT
   by_cases hi : i = id
   ·have HF := xh (HHIT.out hi)
    have hib : (i == id) = true := by rw [hi]; simp
    clear hi
    go_wp2
    go_ret
    exact ⟨by rw [HF.out]; rfl, HB.out⟩
   ·have HF := xh (HNEXT.out hi)
    have hib : (i == id) = false := xn hi
    clear hi
    go_wp2
    go_roundw
    case rel => exact ⟨k + 1, by omega, by go_num, HF, HB⟩
    case measure => simp [intOf]; omega
  ·have HF : Hid (T = -1) := xh (by rw [← HT.out]; exact yy623 fun j hj => HN.out j hj (by omega))
   go_wp2
   go_ret
   exact ⟨by rw [HF.out]; rfl, HB.out⟩
end Go.Proofs.YtjpjdkdbgjipnaaGreatDoor
namespace Go.Proofs.YtjpjdkdbgjipnaaGreatDoor
open Go.ChangeShapes Go.WideShapes Go.ChangeAt Go.RowKit Go.Deep
structure CommitV where
 rev : Int
 client : Int
 seq : Int
 actsA : Option Addr
 actsC : Nat
 acts : List ActV
instance : Inhabited CommitV := ⟨⟨0, 0, 0, none, 0, []⟩⟩
def CommitV.Good (c : CommitV) : Prop := Fit64 c.rev ∧ Fit64 c.client ∧ Fit64 c.seq ∧ (∀ y ∈ c.acts, y.Good) ∧ c.acts.length ≤ c.actsC ∧ c.actsC ≤ maxLen
def yy51 (c : CommitV) : List Value := [.int .i64 c.rev, .int .i64 c.client, .int .i64 c.seq, .slice c.actsA c.acts.length c.actsC]
theorem yy37 (c : CommitV) : (yy51 c).length = 4 := rfl
def yy52 (w : World) (A : Option Addr) (l : List CommitV) : Prop := yy7 w A (l.flatMap yy51) ∧ ∀ y ∈ l, ActsAt w y.actsA y.acts
theorem yy52.below {w w' : World} {A : Option Addr} {l : List CommitV} (h : yy52 w A l) (hb : Below w.heap.size w w') : yy52 w' A l := ⟨yy7.below h.1 hb, fun y hy => (h.2 y hy).below hb⟩
theorem yy52.form {w : World} {A : Option Addr} {l : List CommitV} (h : yy52 w A l) (h0 : 0 < l.length) : ∃ b off, A = some ⟨b, off, none⟩ ∧ b < w.heap.size :=
 yy7.form h.1 (by intro e; have := congrArg List.length e; rw [yy30 yy51 4 yy37] at this; simp at this; omega)
theorem yy52.at_ {w : World} {b off : Nat} {l : List CommitV} (h : yy52 w (some ⟨b, off, none⟩) l) {i : Nat} (hi : i < l.length) :
  w.cell? ⟨b, off + i * 4, none⟩ = some (.int .i64 l[i].rev) ∧ w.cell? ⟨b, off + i * 4 + 1, none⟩ = some (.int .i64 l[i].client) ∧ w.cell? ⟨b, off + i * 4 + 2, none⟩ = some (.int .i64 l[i].seq) ∧
   w.cell? ⟨b, off + i * 4 + 3, none⟩ = some (.slice l[i].actsA l[i].acts.length l[i].actsC) := by
 refine ⟨?_, ?_, ?_, ?_⟩
 ·exact yy7.cell h.1 (j := i * 4 + 0) (by rw [flat_get yy51 4 yy37 l i hi 0 (by omega)]; rfl)
 ·rw [Nat.add_assoc]; exact yy7.cell h.1 (by rw [flat_get yy51 4 yy37 l i hi 1 (by omega)]; rfl)
 ·rw [Nat.add_assoc]; exact yy7.cell h.1 (by rw [flat_get yy51 4 yy37 l i hi 2 (by omega)]; rfl)
 ·rw [Nat.add_assoc]; exact yy7.cell h.1 (by rw [flat_get yy51 4 yy37 l i hi 3 (by omega)]; rfl)
section
variable {H : Type} {enc : TypeId × Value → H} {w : World}
set_option maxRecDepth 100000 in
theorem yy182 {fuel : Nat} {cs : List Value} {x : DataW H × List MemPlace} (h : DataW.trod enc Tryz.prog w 0 (fun _ => true) true fuel 27 cs = some x) (hlt : ∀ p ∈ x.2, p.block < w.heap.size) :
  ∃ A l c, cs = [.slice A (List.length l) c] ∧ yy52 w A l ∧ (∀ y ∈ l, y.Good) ∧ l.length ≤ c ∧ c ≤ maxLen := by
 obtain ⟨A, n, cap, m, rfl, hn, hcap, hform, hrec⟩ := yy95 (k := 4) Tryz.underlying27 Tryz.underlying58 (by kernel_rfl) h hlt
 have each : ∀ i, i < n → ∃ y : CommitV, (y.Good ∧ ActsAt w y.actsA y.acts) ∧ ∀ b off, A = some ⟨b, off, none⟩ → ∀ j, j < 4 → w.cell? ⟨b, off + (i * 4 + j), none⟩ = (yy51 y)[j]? := by
  intro i hi
  obtain ⟨R, hR, hcell, hf⟩ := hrec i hi
  obtain ⟨y0, h0, _⟩ := hf 0 _ rfl
  obtain ⟨y1, h1, _⟩ := hf 1 _ rfl
  obtain ⟨y2, h2, _⟩ := hf 2 _ rfl
  obtain ⟨y3, h3, p3⟩ := hf 3 _ rfl
  obtain ⟨k0, e0, w0⟩ := yy89 (o := 0) h0
  obtain ⟨k1, e1, w1⟩ := yy89 (o := 1) h1
  obtain ⟨k2, e2, w2⟩ := yy89 (o := 2) h2
  obtain ⟨A3, l3, c3, e3, at3, g3, n3, m3⟩ := yy675 (o := 3) h3 p3
  match R, hR with
  | [r0, r1, r2, r3], _ =>
   simp only [List.getElem?_cons_zero, List.getElem?_cons_succ, Option.some.injEq] at e0 e1 e2 e3
   subst e0 e1 e2 e3
   exact ⟨⟨k0, k1, k2, A3, c3, l3⟩, ⟨⟨w0, w1, w2, g3, n3, m3⟩, at3⟩, hcell⟩
 obtain ⟨f, hf⟩ := choose_lt each
 refine ⟨A, (List.range n).map f, cap, by simp, ⟨yy139 yy51 4 (by omega) yy37 f hform (fun i hi => (hf i hi).2), ?_⟩, ?_, by simpa using hn, hcap⟩
 ·intro y hy
  obtain ⟨i, hi, rfl⟩ := List.mem_map.1 hy
  exact (hf i (List.mem_range.1 hi)).1.2
 ·intro y hy
  obtain ⟨i, hi, rfl⟩ := List.mem_map.1 hy
  exact (hf i (List.mem_range.1 hi)).1.1
set_option maxRecDepth 100000 in
theorem yy387 {base : Nat} {v : Value} {d : DataW H} {p : List MemPlace} (hv : Value.okWide Tryz.prog w .any base 27 v) (h : DataW.Trod enc Tryz.prog w 0 (fun _ => true) true 27 v d p) (hlt : ∀ x ∈ p, x.block < w.heap.size) :
  ∃ A l c, v = .slice A (List.length l) c ∧ yy52 w A l ∧ (∀ y ∈ l, y.Good) ∧ l.length ≤ c ∧ c ≤ maxLen := by
 obtain ⟨a0, len, cap, rfl⟩ := okWide_slice Tryz.underlying27 hv
 obtain ⟨fuel, hf⟩ := h
 obtain ⟨A, l, c, e, h1⟩ := yy182 hf hlt
 simp only [Value.cells, List.cons.injEq, and_true] at e
 exact ⟨A, l, c, e, h1⟩
end
end Go.Proofs.YtjpjdkdbgjipnaaGreatDoor
namespace Go.Proofs.YtjpjdkdbgjipnaaGreatDoor
open Go.ChangeShapes Go.WideShapes Go.ChangeAt Go.RowKit
variable {H : Type} {enc : TypeId × Value → H} {w : World}
set_option maxRecDepth 100000 in
theorem yy630 {base : Nat} {v : Value} {d : DataW H} {p : List MemPlace} (hv : Value.okWide Tryz.prog w .any base 22 v) (h : DataW.Trod enc Tryz.prog w 0 (fun _ => true) true 22 v d p) (hlt : ∀ x ∈ p, x.block < w.heap.size) :
  ∃ A l c, v = .slice A (List.length l) c ∧ ActsAt w A l ∧ (∀ y ∈ l, y.Good) ∧ l.length ≤ c ∧ c ≤ maxLen := by
 obtain ⟨a0, len, cap, rfl⟩ := okWide_slice Tryz.underlying22 hv
 obtain ⟨fuel, hf⟩ := h
 obtain ⟨A, l, c, e, h1⟩ := yy124 hf hlt
 simp only [Value.cells, List.cons.injEq, and_true] at e
 exact ⟨A, l, c, e, h1⟩
variable {H : Type} {enc : TypeId × Value → H} {w : World}
set_option maxRecDepth 100000 in
theorem yy719 {base : Nat} {v : Value} {d : DataW H} {p : List MemPlace} (hv : Value.okWide Tryz.prog w .any base 26 v) (h : DataW.Trod enc Tryz.prog w 0 (fun _ => true) true 26 v d p) (hlt : ∀ x ∈ p, x.block < w.heap.size) :
  ∃ a : ActV, v = .agg (yy0 a).toArray ∧ a.Good ∧ yy8 w a.opsA a.ops := by
 obtain ⟨cs, rfl, hsz⟩ := okWide_struct Tryz.underlying26 hv
 have hsz' : cs.size = 6 := hsz.trans (by kernel_rfl)
 obtain ⟨R⟩ := cs
 obtain ⟨fuel, hf⟩ := h
 obtain ⟨xs, n, _, hx, hl, hlen, hg⟩ := DataW.trod_struct Tryz.underlying26 hf
 match R, hsz' with
 | [r0, r1, r2, r3, r4, r5], _ =>
 match xs, hlen with
 | [y0, y1, y2, y3, y4, y5], _ =>
 have h0 := hg 0 _ rfl
 have h1 := hg 1 _ rfl
 have h2 := hg 2 _ rfl
 have h3 := hg 3 _ rfl
 have h4 := hg 4 _ rfl
 have h5 := hg 5 _ rfl
 simp only [Value.cells, List.getElem?_cons_zero, List.getElem?_cons_succ] at h0 h1 h2 h3 h4 h5
 obtain ⟨k0, e0, w0⟩ := yy89 (R := [r0, r1, r2, r3, r4, r5]) (o := 0) h0
 obtain ⟨k1, e1, w1⟩ := yy89 (R := [r0, r1, r2, r3, r4, r5]) (o := 1) h1
 obtain ⟨k2, e2, w2⟩ := yy89 (R := [r0, r1, r2, r3, r4, r5]) (o := 2) h2
 obtain ⟨l3, e3, w3⟩ := yy259 (R := [r0, r1, r2, r3, r4, r5]) (o := 3) h3
 obtain ⟨b4, e4⟩ := yy163 (R := [r0, r1, r2, r3, r4, r5]) (o := 4) h4
 obtain ⟨A5, l5, c5, e5, at5, g5, n5, m5⟩ := yy260 (R := [r0, r1, r2, r3, r4, r5]) (o := 5) h5 (fun q hq => hlt q (by
  injection hx with _ hx
  rw [hx]
  simp only [List.flatMap_cons, List.mem_append]
  simp [hq]))
 simp only [List.getElem?_cons_zero, List.getElem?_cons_succ, Option.some.injEq] at e0 e1 e2 e3 e4 e5
 subst e0 e1 e2 e3 e4 e5
 exact ⟨⟨k0, k1, k2, l3, b4, A5, c5, l5⟩, rfl, ⟨w0, w1, w2, w3, g5, n5, m5⟩, at5⟩
end Go.Proofs.YtjpjdkdbgjipnaaGreatDoor
