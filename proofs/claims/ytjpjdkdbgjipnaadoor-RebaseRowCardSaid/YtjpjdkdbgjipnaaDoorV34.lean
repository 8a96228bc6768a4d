/- A map by IDs of rows of edits, of the call's own. Conditions: at most 2^40 edits in a row. -/
import Derived.Test.YtjpjdkdbgjipnaaDoorV44
import Derived.Test.YtjpjdkdbgjipnaaDoorV46
import Derived.Maps.OwnSet
import Derived.Deep.AppendLies
namespace Go.Proofs.YtjpjdkdbgjipnaaDoor
open Go.RowKit Go.Deep
open Go.Maps (Keyed)
def rvV (v : Value) : Option (DataW Value × List MemPlace) := some (.held v, [])
abbrev MapV (w : World) (b n : Nat) (D : DataW Value) : Prop := w.ownsMap Tryd.prog 3 rvV b n D
theorem mapLaw : Keyed Tryd.prog 3 := Go.Maps.int_keyed Tryd.underlying3
def yy300 (i : Int) : Lit := .int .i64 i
def mapZ : DataW Value := .held (.slice none 0 0)
theorem key_wf {i : Int} (h : Fit64 i) : (Lit.int .i64 i).wf = true := WalkArith.wf_i64 h
theorem key_mk {i : Int} (h : Fit64 i) : keyOf Tryd.prog 3 (.int .i64 i) = some (yy300 i) := Go.Maps.keyOf_int_mk Tryd.underlying3 (key_wf h)
set_option maxRecDepth 100000 in
theorem yy354 {w : World} {b n : Nat} {D : DataW Value} (h : MapV w b n D) {i : Int} (hi : Fit64 i) {v : Value} (hv : D.atKey (yy300 i) mapZ = .held v) :
  (Instr.lookup 107 (.map (some b)) (.int .i64 i) false).run Tryd.prog w = .ok v w := by
 obtain ⟨u, ps, hr, hu⟩ := h.lookup (t := 107) (e := 58) (z := .slice none 0 0) (zd := mapZ) (zp := []) mapLaw Tryd.underlying107 (Tryd.zeroValue58 w) rfl (key_mk hi)
 rw [hv] at hu
 injection hu with hu
 injection hu with hu _
 injection hu with hu
 rw [← hu]
 exact hr
set_option maxRecDepth 100000 in
theorem yy598 {w : World} {b n : Nat} {D : DataW Value} (h : MapV w b n D) (hn : n < maxLen) {i : Int} (hi : Fit64 i) (v : Value) :
  ∃ w', (Instr.mapUpdate 107 (.map (some b)) (.int .i64 i) v).run Tryd.prog w = .ok () w' ∧ MapV w' b (n + 1) (D.put (yy300 i) (.held v)) ∧ w.grownBy w' (some b) :=
 h.update (t := 107) (e := 58) mapLaw Tryd.underlying107 hn (key_mk hi) rfl
def yy159 (x : EditR) : Value := .slice x.1 x.2.2.length x.2.1
def OwnX (w : World) (V : Nat) (A : Option Addr) (c : Nat) (rows : List EditR) : Prop := w.ownsRow V 40 1 (.slice A rows.length c) rows.length (rows.map yy159)
def rowsE (m : List ActV) (i : Int) : List EditR := (m.filter fun a => decide (a.kind = 4) && decide (a.id = i)).map fun a => (a.opsA, a.opsC, a.ops)
theorem yy301 (m : List ActV) {a : ActV} (h : a.kind = 4) : rowsE (m ++ [a]) a.id = rowsE m a.id ++ [(a.opsA, a.opsC, a.ops)] := by
 unfold rowsE
 rw [List.filter_append, List.map_append]
 simp [h]
theorem yy117 (m : List ActV) {a : ActV} {i : Int} (h : a.kind ≠ 4 ∨ a.id ≠ i) : rowsE (m ++ [a]) i = rowsE m i := by
 unfold rowsE
 rw [List.filter_append, List.map_append]
 have : (decide (a.kind = 4) && decide (a.id = i)) = false := by
  rcases h with h | h
  ·rw [decide_eq_false h]; rfl
  ·rw [decide_eq_false h, xb3]
 simp [this]
theorem yy394 (m : List ActV) (i : Int) : (rowsE m i).length ≤ m.length := by
 unfold rowsE
 rw [List.length_map]
 exact List.length_filter_le _ _
structure EdMap (w : World) (V B n : Nat) (S : Int → Option Addr × Nat) (D : DataW Value) (m : List ActV) : Prop where
 own : MapV w B n D
 far : B < V
 up : V ≤ w.heap.size
 at_ : ∀ i, D.atKey (yy300 i) mapZ = .held (.slice (S i).1 (rowsE m i).length (S i).2)
 row : ∀ i, OwnX w V (S i).1 (S i).2 (rowsE m i)
 apart : ∀ i j a b, i ≠ j → (S i).1 = some a → (S j).1 = some b → a.block ≠ b.block
namespace EdMap
variable {w w' : World} {V B n : Nat} {S : Int → Option Addr × Nat} {D : DataW Value} {m : List ActV}
theorem grown (h : EdMap w V B n S D m) {row : Option Nat} (hg : w.grownBy w' row) (hr : ∀ k, row = some k → k < V ∧ k ≠ B) : EdMap w' V B n S D m :=
 ⟨h.own.kept hg (fun e => (hr B e.symm).2 rfl), h.far, Nat.le_trans h.up hg.size, h.at_, fun i => (h.row i).kept hg (by
  cases hv : (Value.slice (S i).1 (rowsE m i).length (S i).2).ownBlock with
  | none => exact .inl rfl
  | some k =>
   refine .inr fun e => ?_
   have h1 := ((h.row i).lt k hv).1
   have h2 := (hr k e.symm).1
   omega), h.apart⟩
theorem alloc (h : EdMap w V B n S D m) (o : Obj) : EdMap (w.alloc o) V B n S D m := h.grown (World.grownBy_alloc w o none) (fun k e => by cases e)
theorem below (h : EdMap w V B n S D m) (hb : Below w.heap.size w w') : EdMap w' V B n S D m :=
 h.grown (row := none) ⟨hb.os, hb.tape, hb.output, hb.size, fun i hi _ => hb.block i hi⟩ (fun k e => by cases e)
theorem skip (h : EdMap w V B n S D m) {a : ActV} (ha : a.kind ≠ 4) : EdMap w V B n S D (m ++ [a]) :=
 ⟨h.own, h.far, h.up, fun i => by rw [yy117 m (.inl ha)]; exact h.at_ i, fun i => by rw [yy117 m (.inl ha)]; exact h.row i, h.apart⟩
end EdMap
theorem yy599 (w : World) : EdMap (w.alloc (.map #[] 0)) (w.heap.size + 1) w.heap.size 0 (fun _ => (none, 0)) (.map []) [] :=
 ⟨World.ownsMap_made w _ _ _, Nat.lt_succ_self _, by simp, fun i => rfl, fun i => World.ownsRow_nil _ _ _ _, fun i j a b _ h => by cases h⟩
theorem yy355 : (Tryd.prog.info? 40).map (fun i => (i.zero, i.size, i.bytes)) = some (some (.slice none 0 0), 1, 24) := by kernel_rfl
theorem EdMap.push {w : World} {V B n : Nat} {S : Int → Option Addr × Nat} {D : DataW Value} {m : List ActV} (h : EdMap w V B n S D m) (hn : n < 1099511627776) (hm : m.length ≤ 1048576) {a : ActV} (hk : a.kind = 4) (hi : Fit64 a.id) (g : Nat) (hg : w.cell? ⟨g, 0, none⟩ = some (yy159 (a.opsA, a.opsC, a.ops))) (ty : TypeId) :
  ∃ A' c' w1, (Builtin.append_ #[58, 58] ty #[.slice (S a.id).1 (rowsE m a.id).length (S a.id).2, .slice (some ⟨g, 0, none⟩) 1 1]).run Tryd.prog w = .ok (.slice (some A') ((rowsE m a.id).length + 1) c') w1 ∧ Below V w w1 ∧ w.grownBy w1 (Value.slice (S a.id).1 (rowsE m a.id).length (S a.id).2).ownBlock ∧
   ∃ w2, (Instr.mapUpdate 107 (.map (some B)) (.int .i64 a.id) (.slice (some A') ((rowsE m a.id).length + 1) c')).run Tryd.prog w1 = .ok () w2 ∧ Below B w1 w2 ∧ w1.grownBy w2 (some B) ∧ ∃ S' D', EdMap w2 V B (n + 1) S' D' (m ++ [a]) := by
 obtain ⟨i0, hi0, hz0, hz1, hz2⟩ := info_parts yy355
 have hrl := yy394 m a.id
 obtain ⟨b, cap, w1, hr, h2, h3, h4, h5⟩ := run_append_lies (P := Tryd.prog) (w := w) 58 ty V 40 i0 (.slice none 0 0) 1 24 Tryd.underlying58 hi0 hz0 hz1 hz2 rfl (by omega)
  _ (rowsE m a.id).length _ (h.row a.id) ⟨g, 0, none⟩ 1 1 [yy159 (a.opsA, a.opsC, a.ops)] rfl (fun j u hu => by
   cases j with
   | zero =>
    rw [Go.WideShapes.add_plain]
    simp at hu
    subst hu
    exact hg
   | succ j => simp at hu) (by intro u hu; simp at hu; subst hu; rfl) (by omega) (by unfold maxLen; omega) (by omega) h.up w.heap.size rfl
 have hbV : V ≤ b := by
  have := (h2.lt b rfl).1
  exact this
 have hbelow : Below V w w1 := (Below.refl V w).grown h3 h.up (fun k hk => ((h.row a.id).lt k hk).1)
 have hown1 : MapV w1 B n D := h.own.kept h3 (fun e => by have := ((h.row a.id).lt B e.symm).1; have := h.far; omega)
 obtain ⟨w2, hs, hm2, hg2⟩ := yy598 hown1 (by unfold maxLen; omega) hi (.slice (some ⟨b, 0, none⟩) ((rowsE m a.id).length + 1) cap)
 refine ⟨⟨b, 0, none⟩, cap, w1, hr, hbelow, h3, w2, hs, (Below.refl B w1).grown hg2 (Nat.le_trans (Nat.le_of_lt h.far) (Nat.le_trans h.up hbelow.size)) (fun k hk => by injection hk with hk; omega), hg2, fun i => if i = a.id then (some ⟨b, 0, none⟩, cap) else S i, _, hm2, h.far, Nat.le_trans (Nat.le_trans h.up hbelow.size) hg2.size, fun i => ?_, fun i => ?_, ?_⟩
 ·by_cases e : i = a.id
  ·subst e
   rw [Go.Maps.atKey_put_same h.own.isMap (by trivial), if_pos rfl, yy301 m hk, List.length_append]
   rfl
  ·rw [Go.Maps.atKey_put_other (by intro e2; unfold yy300 at e2; injection e2 with _ e2; exact e e2), if_neg e, yy117 m (.inr (fun e2 => e e2.symm))]
   exact h.at_ i
 ·by_cases e : i = a.id
  ·subst e
   rw [if_pos rfl, yy301 m hk]
   have h6 := h2.kept hg2 (.inr (fun e => by have e2 : some b = some B := e; injection e2 with e2; have := h.far; omega))
   have e3 : (rowsE m a.id).map yy159 ++ [yy159 (a.opsA, a.opsC, a.ops)] = (rowsE m a.id ++ [(a.opsA, a.opsC, a.ops)]).map yy159 := by simp
   rw [e3] at h6
   unfold OwnX
   rw [List.length_append]
   exact h6
  ·rw [if_neg e, yy117 m (.inr (fun e2 => e e2.symm))]
   have hne : ∀ k, (Value.slice (S i).1 (rowsE m i).length (S i).2).ownBlock = some k → (Value.slice (S a.id).1 (rowsE m a.id).length (S a.id).2).ownBlock ≠ some k := fun k h1 h2 => by
    cases hA : (S i).1 with
    | none => rw [hA] at h1; cases h1
    | some x =>
     cases hB : (S a.id).1 with
     | none => rw [hB] at h2; cases h2
     | some y =>
      rw [hA] at h1
      rw [hB] at h2
      injection h1 with h1
      injection h2 with h2
      exact h.apart i a.id x y e hA hB (h1.trans h2.symm)
   have k1 : OwnX w1 V (S i).1 (S i).2 (rowsE m i) := (h.row i).kept h3 (by
    cases hv : (Value.slice (S i).1 (rowsE m i).length (S i).2).ownBlock with
    | none => exact .inl rfl
    | some k => exact .inr fun e2 => hne k hv e2.symm)
   exact k1.kept hg2 (by
    cases hv : (Value.slice (S i).1 (rowsE m i).length (S i).2).ownBlock with
    | none => exact .inl rfl
    | some k =>
     refine .inr fun e2 => ?_
     injection e2 with e2
     have := (k1.lt k hv).1
     have := h.far
     omega)
 ·intro i j x y hij hx hy
  have hnew : ∀ z, z ≠ a.id → ∀ q, (S z).1 = some q → q.block ≠ b := fun z hz q hq e => by
   rcases h4 with h4 | h4
   ·cases hA : (S a.id).1 with
    | none => rw [hA] at h4; cases h4
    | some y =>
     rw [hA] at h4
     injection h4 with h4
     exact h.apart z a.id q y hz hq hA (by rw [e]; exact h4.symm)
   ·have hq2 : (Value.slice (S z).1 (rowsE m z).length (S z).2).ownBlock = some q.block := by rw [hq]; rfl
    have := ((h.row z).lt _ hq2).2
    omega
  by_cases e1 : i = a.id
  ·subst e1
   have e2 : ¬ j = a.id := fun e => hij e.symm
   rw [if_pos rfl] at hx
   rw [if_neg e2] at hy
   injection hx with hx
   subst hx
   exact fun e => hnew j e2 y hy e.symm
  ·rw [if_neg e1] at hx
   by_cases e2 : j = a.id
   ·subst e2
    rw [if_pos rfl] at hy
    injection hy with hy
    subst hy
    exact hnew i e1 x hx
   ·rw [if_neg e2] at hy
    exact h.apart i j x y hij hx hy
end Go.Proofs.YtjpjdkdbgjipnaaDoor
