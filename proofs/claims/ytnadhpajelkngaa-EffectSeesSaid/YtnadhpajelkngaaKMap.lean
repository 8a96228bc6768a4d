/- The landed effect's editsOf: the edits of each ID, in a map. Conditions: at most 2^20 acts, that may be looked at. (Merged of 2 texts.) -/
import Derived.Test.YtnadhpajelkngaaKCs
import Derived.Test.YtnadhpajelkngaaKCells
import Derived.Test.YtnadhpajelkngaaKOne
import Derived.Maps.OwnSet
import Derived.Deep.AppendLies
import Derived.Test.YtnadhpajelkngaaKRow
import Derived.Test.YtnadhpajelkngaaKBase
import Derived.Carry
import Derived.Deep.CutRange
/- A map by IDs of rows of edits, of the call's own. Conditions: at most 2^40 edits in a row. -/
namespace Go.Proofs.Ytnadhpajelkngaa
open Go.RowKit Go.Deep
open Go.Maps (Keyed)

/-- A value of a map, as it is. -/
def rvV (v : Value) : Option (DataW Value × List MemPlace) := some (.held v, [])
abbrev MapV (w : World) (b n : Nat) (D : DataW Value) : Prop := w.ownsMap Try.prog 3 rvV b n D
theorem mapLaw : Keyed Try.prog 3 := Go.Maps.int_keyed Try.underlying3
def mapKeyI (i : Int) : Lit := .int .i64 i
def mapZ : DataW Value := .held (.slice none 0 0)
theorem key_wf {i : Int} (h : Fit64 i) : (Lit.int .i64 i).wf = true := WalkArith.wf_i64 h
theorem key_mk {i : Int} (h : Fit64 i) : keyOf Try.prog 3 (.int .i64 i) = some (mapKeyI i) := Go.Maps.keyOf_int_mk Try.underlying3 (key_wf h)
set_option maxRecDepth 100000 in
theorem map_look {w : World} {b n : Nat} {D : DataW Value} (h : MapV w b n D) {i : Int} (hi : Fit64 i) {v : Value} (hv : D.atKey (mapKeyI i) mapZ = .held v) :
    (Instr.lookup 58 (.map (some b)) (.int .i64 i) false).run Try.prog w = .ok v w := by
  obtain ⟨u, ps, hr, hu⟩ := h.lookup (t := 58) (e := 61) (z := .slice none 0 0) (zd := mapZ) (zp := []) mapLaw Try.underlying58 (Try.zeroValue61 w) rfl (key_mk hi)
  rw [hv] at hu
  injection hu with hu
  injection hu with hu _
  injection hu with hu
  rw [← hu]
  exact hr
set_option maxRecDepth 100000 in
theorem map_store {w : World} {b n : Nat} {D : DataW Value} (h : MapV w b n D) (hn : n < maxLen) {i : Int} (hi : Fit64 i) (v : Value) :
    ∃ w', (Instr.mapUpdate 58 (.map (some b)) (.int .i64 i) v).run Try.prog w = .ok () w' ∧ MapV w' b (n + 1) (D.put (mapKeyI i) (.held v)) ∧ w.grownBy w' (some b) :=
  h.update (t := 58) (e := 61) mapLaw Try.underlying58 hn (key_mk hi) rfl

def editCell (x : EditR) : Value := .slice x.1 x.2.2.length x.2.1
def OwnX (w : World) (V : Nat) (A : Option Addr) (c : Nat) (rows : List EditR) : Prop := w.ownsRow V 22 1 (.slice A rows.length c) rows.length (rows.map editCell)
/-- The edits of one, in the acts' order. -/
def rowsE (m : List ActV) (i : Int) : List EditR := (m.filter fun a => decide (a.kind = 4) && decide (a.id = i)).map fun a => (a.opsA, a.opsC, a.ops)
theorem rowsE_nil (i : Int) : rowsE [] i = [] := rfl
theorem rowsE_same (m : List ActV) {a : ActV} (h : a.kind = 4) : rowsE (m ++ [a]) a.id = rowsE m a.id ++ [(a.opsA, a.opsC, a.ops)] := by
  unfold rowsE
  rw [List.filter_append, List.map_append]
  simp [h]
theorem rowsE_other (m : List ActV) {a : ActV} {i : Int} (h : a.kind ≠ 4 ∨ a.id ≠ i) : rowsE (m ++ [a]) i = rowsE m i := by
  unfold rowsE
  rw [List.filter_append, List.map_append]
  have : (decide (a.kind = 4) && decide (a.id = i)) = false := by
    rcases h with h | h
    · rw [decide_eq_false h]; rfl
    · rw [decide_eq_false h, Bool.and_false]
  simp [this]
theorem rowsE_len (m : List ActV) (i : Int) : (rowsE m i).length ≤ m.length := by
  unfold rowsE
  rw [List.length_map]
  exact List.length_filter_le _ _
structure EdMap (w : World) (V B n : Nat) (S : Int → Option Addr × Nat) (D : DataW Value) (m : List ActV) : Prop where
  own : MapV w B n D
  far : B < V
  up : V ≤ w.heap.size
  at_ : ∀ i, D.atKey (mapKeyI i) mapZ = .held (.slice (S i).1 (rowsE m i).length (S i).2)
  row : ∀ i, OwnX w V (S i).1 (S i).2 (rowsE m i)
  apart : ∀ i j a b, i ≠ j → (S i).1 = some a → (S j).1 = some b → a.block ≠ b.block
namespace EdMap
variable {w w' : World} {V B n : Nat} {S : Int → Option Addr × Nat} {D : DataW Value} {m : List ActV}
theorem grown (h : EdMap w V B n S D m) {row : Option Nat} (hg : w.grownBy w' row) (hr : ∀ k, row = some k → k < V ∧ k ≠ B) : EdMap w' V B n S D m :=
  ⟨h.own.kept hg (fun e => (hr B e.symm).2 rfl), h.far, Nat.le_trans h.up hg.size, h.at_, fun i => (h.row i).kept hg (by
    cases hv : (Value.slice (S i).1 (rowsE m i).length (S i).2).ownBlock with
    | none => exact .inl rfl
    | some k =>
      refine .inr fun e => ?_
      have h1 := ((h.row i).lt k hv).1
      have h2 := (hr k e.symm).1
      omega), h.apart⟩
theorem alloc (h : EdMap w V B n S D m) (o : Obj) : EdMap (w.alloc o) V B n S D m := h.grown (World.grownBy_alloc w o none) (fun k e => by cases e)
theorem below (h : EdMap w V B n S D m) (hb : Below w.heap.size w w') : EdMap w' V B n S D m :=
  h.grown (row := none) ⟨hb.os, hb.tape, hb.output, hb.size, fun i hi _ => hb.block i hi⟩ (fun k e => by cases e)
theorem skip (h : EdMap w V B n S D m) {a : ActV} (ha : a.kind ≠ 4) : EdMap w V B n S D (m ++ [a]) :=
  ⟨h.own, h.far, h.up, fun i => by rw [rowsE_other m (.inl ha)]; exact h.at_ i, fun i => by rw [rowsE_other m (.inl ha)]; exact h.row i, h.apart⟩
theorem mono (h : EdMap w V B n S D m) {k : Nat} (hk : n ≤ k) : EdMap w V B k S D m := ⟨h.own.mono hk, h.far, h.up, h.at_, h.row, h.apart⟩
end EdMap
theorem edMap_new (w : World) : EdMap (w.alloc (.map #[] 0)) (w.heap.size + 1) w.heap.size 0 (fun _ => (none, 0)) (.map []) [] :=
  ⟨World.ownsMap_made w _ _ _, Nat.lt_succ_self _, by simp, fun i => rfl, fun i => World.ownsRow_nil _ _ _ _, fun i j a b _ h => by cases h⟩
theorem compsRow_inf : (Try.prog.info? 22).map (fun i => (i.zero, i.size, i.bytes)) = some (some (.slice none 0 0), 1, 24) := by kernel_rfl
/-- An edit more, of one. -/
theorem EdMap.push {w : World} {V B n : Nat} {S : Int → Option Addr × Nat} {D : DataW Value} {m : List ActV} (h : EdMap w V B n S D m) (hn : n < 1099511627776) (hm : m.length ≤ 1048576) {a : ActV} (hk : a.kind = 4) (hi : Fit64 a.id) (g : Nat) (hg : w.cell? ⟨g, 0, none⟩ = some (editCell (a.opsA, a.opsC, a.ops))) (ty : TypeId) :
    ∃ A' c' w1, (Builtin.append_ #[61, 61] ty #[.slice (S a.id).1 (rowsE m a.id).length (S a.id).2, .slice (some ⟨g, 0, none⟩) 1 1]).run Try.prog w = .ok (.slice (some A') ((rowsE m a.id).length + 1) c') w1 ∧ Below V w w1 ∧ w.grownBy w1 (Value.slice (S a.id).1 (rowsE m a.id).length (S a.id).2).ownBlock ∧
      ∃ w2, (Instr.mapUpdate 58 (.map (some B)) (.int .i64 a.id) (.slice (some A') ((rowsE m a.id).length + 1) c')).run Try.prog w1 = .ok () w2 ∧ Below B w1 w2 ∧ w1.grownBy w2 (some B) ∧ ∃ S' D', EdMap w2 V B (n + 1) S' D' (m ++ [a]) := by
  obtain ⟨i0, hi0, hz0, hz1, hz2⟩ := info_parts compsRow_inf
  have hrl := rowsE_len m a.id
  obtain ⟨b, cap, w1, hr, h2, h3, h4, h5⟩ := run_append_lies (P := Try.prog) (w := w) 61 ty V 22 i0 (.slice none 0 0) 1 24 Try.underlying61 hi0 hz0 hz1 hz2 rfl (by omega)
    _ (rowsE m a.id).length _ (h.row a.id) ⟨g, 0, none⟩ 1 1 [editCell (a.opsA, a.opsC, a.ops)] rfl (fun j u hu => by
      cases j with
      | zero =>
        rw [Go.WideShapes.add_plain]
        simp at hu
        subst hu
        exact hg
      | succ j => simp at hu) (by intro u hu; simp at hu; subst hu; rfl) (by omega) (by unfold maxLen; omega) (by omega) h.up w.heap.size rfl
  have hbV : V ≤ b := by
    have := (h2.lt b rfl).1
    exact this
  have hbelow : Below V w w1 := (Below.refl V w).grown h3 h.up (fun k hk => ((h.row a.id).lt k hk).1)
  have hown1 : MapV w1 B n D := h.own.kept h3 (fun e => by have := ((h.row a.id).lt B e.symm).1; have := h.far; omega)
  obtain ⟨w2, hs, hm2, hg2⟩ := map_store hown1 (by unfold maxLen; omega) hi (.slice (some ⟨b, 0, none⟩) ((rowsE m a.id).length + 1) cap)
  refine ⟨⟨b, 0, none⟩, cap, w1, hr, hbelow, h3, w2, hs, (Below.refl B w1).grown hg2 (Nat.le_trans (Nat.le_of_lt h.far) (Nat.le_trans h.up hbelow.size)) (fun k hk => by injection hk with hk; omega), hg2, fun i => if i = a.id then (some ⟨b, 0, none⟩, cap) else S i, _, hm2, h.far, Nat.le_trans (Nat.le_trans h.up hbelow.size) hg2.size, fun i => ?_, fun i => ?_, ?_⟩
  · by_cases e : i = a.id
    · subst e
      rw [Go.Maps.atKey_put_same h.own.isMap (by trivial), if_pos rfl, rowsE_same m hk, List.length_append]
      rfl
    · rw [Go.Maps.atKey_put_other (by intro e2; unfold mapKeyI at e2; injection e2 with _ e2; exact e e2), if_neg e, rowsE_other m (.inr (fun e2 => e e2.symm))]
      exact h.at_ i
  · by_cases e : i = a.id
    · subst e
      rw [if_pos rfl, rowsE_same m hk]
      have h6 := h2.kept hg2 (.inr (fun e => by have e2 : some b = some B := e; injection e2 with e2; have := h.far; omega))
      have e3 : (rowsE m a.id).map editCell ++ [editCell (a.opsA, a.opsC, a.ops)] = (rowsE m a.id ++ [(a.opsA, a.opsC, a.ops)]).map editCell := by simp
      rw [e3] at h6
      unfold OwnX
      rw [List.length_append]
      exact h6
    · rw [if_neg e, rowsE_other m (.inr (fun e2 => e e2.symm))]
      have hne : ∀ k, (Value.slice (S i).1 (rowsE m i).length (S i).2).ownBlock = some k → (Value.slice (S a.id).1 (rowsE m a.id).length (S a.id).2).ownBlock ≠ some k := fun k h1 h2 => by
        cases hA : (S i).1 with
        | none => rw [hA] at h1; cases h1
        | some x =>
          cases hB : (S a.id).1 with
          | none => rw [hB] at h2; cases h2
          | some y =>
            rw [hA] at h1
            rw [hB] at h2
            injection h1 with h1
            injection h2 with h2
            exact h.apart i a.id x y e hA hB (h1.trans h2.symm)
      have k1 : OwnX w1 V (S i).1 (S i).2 (rowsE m i) := (h.row i).kept h3 (by
        cases hv : (Value.slice (S i).1 (rowsE m i).length (S i).2).ownBlock with
        | none => exact .inl rfl
        | some k => exact .inr fun e2 => hne k hv e2.symm)
      exact k1.kept hg2 (by
        cases hv : (Value.slice (S i).1 (rowsE m i).length (S i).2).ownBlock with
        | none => exact .inl rfl
        | some k =>
          refine .inr fun e2 => ?_
          injection e2 with e2
          have := (k1.lt k hv).1
          have := h.far
          omega)
  · intro i j x y hij hx hy
    have hnew : ∀ z, z ≠ a.id → ∀ q, (S z).1 = some q → q.block ≠ b := fun z hz q hq e => by
      rcases h4 with h4 | h4
      · cases hA : (S a.id).1 with
        | none => rw [hA] at h4; cases h4
        | some y =>
          rw [hA] at h4
          injection h4 with h4
          exact h.apart z a.id q y hz hq hA (by rw [e]; exact h4.symm)
      · have hq2 : (Value.slice (S z).1 (rowsE m z).length (S z).2).ownBlock = some q.block := by rw [hq]; rfl
        have := ((h.row z).lt _ hq2).2
        omega
    by_cases e1 : i = a.id
    · subst e1
      have e2 : ¬ j = a.id := fun e => hij e.symm
      rw [if_pos rfl] at hx
      rw [if_neg e2] at hy
      injection hx with hx
      subst hx
      exact fun e => hnew j e2 y hy e.symm
    · rw [if_neg e1] at hx
      by_cases e2 : j = a.id
      · subst e2
        rw [if_pos rfl] at hy
        injection hy with hy
        subst hy
        exact hnew i e1 x hx
      · rw [if_neg e2] at hy
        exact h.apart i j x y hij hx hy
end Go.Proofs.Ytnadhpajelkngaa

/- The landed effect's editsOf: the edits of each ID, in a map. Conditions: at most 2^20 acts, that may be looked at. -/
namespace Go.Proofs.Ytnadhpajelkngaa
open Go.RowKit Go.Deep

theorem wp_app_run {w w' : World} {o : Oper} {a : Act} {K : Act → World → Prop} {Q : Exit → Act → World → Prop} (s x : Operand) (t : TypeId)
    (ho : o.op = .call { callee := .builtin .append, args := #[s, x], argTypes := #[t, t] }) (u v r : Value) (hs : a.eval s = u) (hx : a.eval x = v)
    (hrun : (Builtin.append_ #[t, t] o.type #[u, v]).run Try.prog w = .ok r w') (hK : K (a.put o.dst r) w') : o.wp Try.prog a w K Q := by
  unfold Oper.wp execOp
  simp only [ho, resolve, invoke, builtin, Sem.run_bind, Sem.run_pure, Result.andThen_ok, List.map_toArray, List.map_cons, List.map_nil, hs, hx, hrun]
  exact hK
/-- What editsOf answers. -/
def EditsEnd (w : World) (m : List ActV) (e : Ending) (w' : World) : Prop := ∃ B V n S D, e = .returned (.map (some B)) ∧ EdMap w' V B n S D m ∧ w.heap.size ≤ B ∧ Below w.heap.size w w'
def edS0 : Sched Nat := (.one 10 (.one 11 .done))
def edS : Sched Nat := (.quiet 0 (.quiet 1 (.quiet 2 (.quiet 3 (.quiet 4 (.quiet 5 (.quiet 7 (.quiet 8 (.two 6 (.one 9 edS0) 9 (.one 6 edS0))))))))))
set_option maxHeartbeats 8000000 in
set_option maxRecDepth 100000 in
theorem effEdits_any (A : Option Addr) (c : Nat) (m : List ActV) (hl : m.length ≤ 1048576) (hg : ∀ a ∈ m, ActH a) (w : World) (hA : ActsAt w A m) :
    Calls Try.prog 26 #[.slice A m.length c] w (EditsEnd w m) := by
  have HA := Lib.hid hA
  have HG := Lib.hid hg
  clear hA hg
  have hmm := @run_makeMap Try.prog
  have HNEW := Lib.hid (edMap_new w)
  have HB0 := Lib.hid ((Below.refl w.heap.size w).alloc (Nat.le_refl _) (.map #[] 0))
  obtain ⟨g, HGG⟩ : ∃ g, Hid (w.heap.size = g) := ⟨_, Lib.hid rfl⟩
  rw [HGG.out] at HNEW HB0
  go_enter Try.func26, Try.ntmps26
  go_wp2
  rw [HGG.out]
  obtain ⟨W1, HW1⟩ : ∃ x, Hid (w.alloc (.map #[] 0) = x) := ⟨_, Lib.hid rfl⟩
  rw [HW1.out] at HNEW HB0 ⊢
  clear hmm
  go_loopw [9] (fun i wr => ∃ (k n : Nat) (S : Int → Option Addr × Nat) (D : DataW Value), k ≤ m.length ∧ i = .int .i64 k ∧ n ≤ k ∧ Hid (EdMap wr (g + 1) g n S D (m.take k)) ∧ Hid (Below g w wr)) (fun i _ => m.length - (intOf i).toNat)
  case atStart => exact ⟨0, 0, _, _, Nat.zero_le _, rfl, Nat.le_refl _, HNEW, HB0⟩
  case round =>
    obtain ⟨k, n, S, D, hk, rfl, hn, HE, HBE⟩ := hrel
    by_cases hlt : k < m.length
    · have hltI : (k : Int) < (m.length : Int) := by omega
      have hAw := HA.out.below (by rw [HGG.out]; exact HBE.out)
      obtain ⟨b1, o1, rfl, _⟩ := hAw.form (by omega)
      obtain ⟨x0, x1, x2, x3, x4, x5⟩ := hAw.at_ hlt
      have HAH := Lib.hid (HG.out _ (List.getElem_mem hlt))
      have HTK : Hid (m.take (k + 1) = m.take k ++ [m[k]]) := Lib.hid (List.take_succ_eq_append_getElem hlt)
      have HTL : Hid ((m.take k).length ≤ 1048576) := Lib.hid (by rw [List.length_take]; omega)
      clear hAw
      generalize m[k] = a at x0 x1 x2 x3 x4 x5 HAH HTK
      generalize m.take k = P at HE HTK HTL
      have HRL : Hid (∀ i q, (Value.slice (S i).1 (rowsE P i).length (S i).2).ownBlock = some q → q < wr.heap.size) := Lib.hid (fun i q h => ((HE.out.row i).lt q h).2)
      obtain ⟨ak, ai, ap, an, ad, aA, aC, ao⟩ := a
      simp only at x0 x1 x2 x3 x4 x5
      obtain ⟨h, HH⟩ : ∃ h, Hid (wr.heap.size = h) := ⟨_, Lib.hid rfl⟩
      have hrow := six_new wr 31 (.int .i64 ak) (.int .i64 ai) (.int .i64 ap) (.string (bstr an)) (.bool ad) (.slice aA ao.length aC)
      rw [HH.out] at hrow
      have HE1 := Lib.hid (HE.out.alloc (.cells #[.int .i64 ak, .int .i64 ai, .int .i64 ap, .string (bstr an), .bool ad, .slice aA ao.length aC] 31))
      have HB1 : Hid (Below g w (wr.alloc (.cells #[.int .i64 ak, .int .i64 ai, .int .i64 ap, .string (bstr an), .bool ad, .slice aA ao.length aC] 31))) := Lib.hid (HBE.out.trans ((Below.refl _ _).alloc (by rw [← HGG.out]; exact HBE.out.size) _))
      obtain ⟨Wx, HWx⟩ : ∃ x, Hid (wr.alloc (.cells #[.int .i64 ak, .int .i64 ai, .int .i64 ap, .string (bstr an), .bool ad, .slice aA ao.length aC] 31) = x) := ⟨_, Lib.hid rfl⟩
      rw [HWx.out] at hrow HE1 HB1
      have HROW := Lib.hid hrow
      have q0 : (wr.alloc (.cells #[.int .i64 ak, .int .i64 ai, .int .i64 ap, .string (bstr an), .bool ad, .slice aA ao.length aC] 31)).cell? ⟨wr.heap.size, 0, none⟩ = some (.int .i64 ak) := by rw [HWx.out, HH.out]; exact (six_cells hrow).1
      clear hrow
      have hn1 : n < 1099511627776 := by omega
      by_cases hk4 : ak = 4
      · subst hk4
        have HFIT : Hid (Fit64 ai) := Lib.hid HAH.out.1.2.1
        have hb4 : ((4 : Int) == 4) = true := rfl
        go_upto_region 6 with fail
        rw [HWx.out, HH.out]
        clear x0 x1 x2 x3 x4 x5 q0 hb4
        obtain ⟨_, y1, _, _, _, y5⟩ := six_cells HROW.out
        have e1 : ∀ e : ExtK (keepBlocks [h]) Wx.drew, e.val.cell? ⟨h, 1, none⟩ = some (.int .i64 ai) := fun e => (cell_of_block (e.property.2 h (by simp)) _).trans y1
        have e5 : ∀ e : ExtK (keepBlocks [h]) Wx.drew, e.val.cell? ⟨h, 5, none⟩ = some (.slice aA ao.length aC) := fun e => (cell_of_block (e.property.2 h (by simp)) _).trans y5
        clear y1 y5
        refine Sched.wp_region_branch (keepBlocks [h]) edS (by kernel_rfl) (by kernel_rfl) (fun _ _ d _ _ h => by cases d <;> exact h) ?_
        have hdb : Below Wx.heap.size Wx Wx.drew := (Below.refl _ _).drew
        replace HE1 := Lib.hid (HE1.out.below hdb)
        replace HB1 := Lib.hid HB1.out.drew
        replace HROW := Lib.hid HROW.out.drew
        have HSZ : Hid (Wx.drew.heap.size = h + 1) := Lib.hid (by rw [← HWx.out, ← HH.out]; show (wr.alloc _).heap.size = _; simp)
        clear hdb
        generalize World.drew _ = wd at HE1 HB1 HROW e1 e5 HSZ ⊢
        simp only [edS, Sched.picked, List.getElem?_cons_succ, List.getElem?_cons_zero, Option.getD_some]
        repeat (refine Sched.walkK_quiet (by rfl) (fun K hK => ?_); go_big_quiet_op; refine hK _ ?_; clear hK K)
        clear e1 e5
        have HE2 := Lib.hid (HE1.out.alloc (.cells #[.slice aA ao.length aC] 22))
        have HBA : Hid (Below wd.heap.size wd (wd.alloc (.cells #[.slice aA ao.length aC] 22))) := Lib.hid ((Below.refl _ _).alloc (Nat.le_refl _) _)
        have hcl : (wd.alloc (.cells #[.slice aA ao.length aC] 22)).cell? ⟨wd.heap.size, 0, none⟩ = some (.slice aA ao.length aC) := by simp
        have HCL := Lib.hid hcl
        have hlk := map_look HE1.out.own HFIT.out (HE1.out.at_ ai)
        have hlk2 := map_look HE2.out.own HFIT.out (HE2.out.at_ ai)
        clear hcl
        refine Sched.walkK_two ?_ ?_
        · refine Sched.walkK_one (by rfl) (fun K hK => ?_)
          go_simp
          refine hK _ _ ((keepBlocks [h]).refl _) ?_
          clear hK K hlk hlk2
          refine Sched.walkK_one (by rfl) (fun K hK => ?_)
          go_simp
          refine hK _ _ (keep_one HBA.out.size (HBA.out.block h (by have := HSZ.out; omega))) ?_
          clear hK K
          obtain ⟨Wy, HWy⟩ : ∃ x, Hid (wd.alloc (.cells #[.slice aA ao.length aC] 22) = x) := ⟨_, Lib.hid rfl⟩
          rw [HWy.out] at HE2 HBA HCL ⊢
          obtain ⟨A6, c6, w6, hap, hb6, hg6, w7, hst, hb7, hg7, S7, D7, hE7⟩ := HE2.out.push hn1 HTL.out (a := ⟨4, ai, ap, an, ad, aA, aC, ao⟩) rfl HFIT.out wd.heap.size HCL.out 61
          have hap2 : (Builtin.append_ #[61, 61] 61 #[.slice (S ai).1 (rowsE P ai).length (S ai).2, .slice (some ⟨wd.heap.size, 0, none⟩) 1 1]).run Try.prog Wy = .ok (.slice (some A6) ((rowsE P ai).length + 1) c6) w6 := hap
          have hst2 : (Instr.mapUpdate 58 (.map (some g)) (.int .i64 ai) (.slice (some A6) ((rowsE P ai).length + 1) c6)).run Try.prog w6 = .ok () w7 := hst
          have HST := Lib.hid hst2
          have HAP := Lib.hid hap2
          have HE7 := Lib.hid hE7
          have HBF : Hid (Below g w w7) := Lib.hid (((HB1.out.trans (HBA.out.mono (Nat.le_trans (by rw [HGG.out]; exact Nat.le_refl g) HB1.out.size))).trans (hb6.mono (Nat.le_succ g))).trans hb7)
          have HK6 : Hid ((keepBlocks [h]).r Wy w6) := Lib.hid (keep_one hg6.size (hg6.block h (by have := HBA.out.size; have := HSZ.out; omega) (fun e => by have h1 := HRL.out ai h e.symm; have h2 := HH.out; omega)))
          have HK7 : Hid ((keepBlocks [h]).r w6 w7) := Lib.hid (keep_one hg7.size (hg7.block h (by have := HBA.out.size; have := HSZ.out; have := hg6.size; omega) (fun e => by injection e with e; have h1 := HE2.out.up; have h2 := HH.out; have h3 := HE.out.up; omega)))
          clear hap hap2 hst2 hst hE7 hb6 hg6 hb7 hg7
          simp only [edS0, Sched.picked, List.getElem?_cons_succ, List.getElem?_cons_zero, Option.getD_some]
          refine Sched.walkK_one (by rfl) (fun K hK => ?_)
          refine wp_app_run (.tmp 22) (.tmp 25) 61 rfl (.slice (S ai).1 (rowsE P ai).length (S ai).2) (.slice (some ⟨wd.heap.size, 0, none⟩) 1 1) (.slice (some A6) ((rowsE P ai).length + 1) c6) rfl rfl HAP.out ?_
          refine hK _ _ HK6.out ?_
          clear hK K
          try simp only [Act.put, List.setIfInBounds_toArray, List.set_cons_zero, List.set_cons_succ]
          refine Sched.walkK_one (by rfl) (fun K hK => ?_)
          have hst := HST.out
          go_simp
          refine hK _ _ HK7.out ?_
          clear hK K hst
          refine Sched.walkK_done ?_
          go_wp2
          go_roundw
          case rel => exact ⟨k + 1, n + 1, S7, D7, by omega, by go_num, by omega, by rw [HTK.out]; exact HE7, HBF⟩
          case measure => simp [intOf]; omega
        · refine Sched.walkK_one (by rfl) (fun K hK => ?_)
          go_simp
          refine hK _ _ (keep_one HBA.out.size (HBA.out.block h (by have := HSZ.out; omega))) ?_
          clear hK K
          refine Sched.walkK_one (by rfl) (fun K hK => ?_)
          go_simp
          refine hK _ _ ((keepBlocks [h]).refl _) ?_
          clear hK K hlk hlk2
          obtain ⟨Wy, HWy⟩ : ∃ x, Hid (wd.alloc (.cells #[.slice aA ao.length aC] 22) = x) := ⟨_, Lib.hid rfl⟩
          rw [HWy.out] at HE2 HBA HCL ⊢
          obtain ⟨A6, c6, w6, hap, hb6, hg6, w7, hst, hb7, hg7, S7, D7, hE7⟩ := HE2.out.push hn1 HTL.out (a := ⟨4, ai, ap, an, ad, aA, aC, ao⟩) rfl HFIT.out wd.heap.size HCL.out 61
          have hap2 : (Builtin.append_ #[61, 61] 61 #[.slice (S ai).1 (rowsE P ai).length (S ai).2, .slice (some ⟨wd.heap.size, 0, none⟩) 1 1]).run Try.prog Wy = .ok (.slice (some A6) ((rowsE P ai).length + 1) c6) w6 := hap
          have hst2 : (Instr.mapUpdate 58 (.map (some g)) (.int .i64 ai) (.slice (some A6) ((rowsE P ai).length + 1) c6)).run Try.prog w6 = .ok () w7 := hst
          have HST := Lib.hid hst2
          have HAP := Lib.hid hap2
          have HE7 := Lib.hid hE7
          have HBF : Hid (Below g w w7) := Lib.hid (((HB1.out.trans (HBA.out.mono (Nat.le_trans (by rw [HGG.out]; exact Nat.le_refl g) HB1.out.size))).trans (hb6.mono (Nat.le_succ g))).trans hb7)
          have HK6 : Hid ((keepBlocks [h]).r Wy w6) := Lib.hid (keep_one hg6.size (hg6.block h (by have := HBA.out.size; have := HSZ.out; omega) (fun e => by have h1 := HRL.out ai h e.symm; have h2 := HH.out; omega)))
          have HK7 : Hid ((keepBlocks [h]).r w6 w7) := Lib.hid (keep_one hg7.size (hg7.block h (by have := HBA.out.size; have := HSZ.out; have := hg6.size; omega) (fun e => by injection e with e; have h1 := HE2.out.up; have h2 := HH.out; have h3 := HE.out.up; omega)))
          clear hap hap2 hst2 hst hE7 hb6 hg6 hb7 hg7
          simp only [edS0, Sched.picked, List.getElem?_cons_succ, List.getElem?_cons_zero, Option.getD_some]
          refine Sched.walkK_one (by rfl) (fun K hK => ?_)
          refine wp_app_run (.tmp 22) (.tmp 25) 61 rfl (.slice (S ai).1 (rowsE P ai).length (S ai).2) (.slice (some ⟨wd.heap.size, 0, none⟩) 1 1) (.slice (some A6) ((rowsE P ai).length + 1) c6) rfl rfl HAP.out ?_
          refine hK _ _ HK6.out ?_
          clear hK K
          try simp only [Act.put, List.setIfInBounds_toArray, List.set_cons_zero, List.set_cons_succ]
          refine Sched.walkK_one (by rfl) (fun K hK => ?_)
          have hst := HST.out
          go_simp
          refine hK _ _ HK7.out ?_
          clear hK K hst
          refine Sched.walkK_done ?_
          go_wp2
          go_roundw
          case rel => exact ⟨k + 1, n + 1, S7, D7, by omega, by go_num, by omega, by rw [HTK.out]; exact HE7, HBF⟩
          case measure => simp [intOf]; omega
      · have hb4 : (ak == 4) = false := beq_eq_false_iff_ne.2 hk4
        have HE7 : Hid (EdMap _ (g + 1) g n S D (m.take (k + 1))) := Lib.hid (by rw [HTK.out]; exact HE1.out.skip hk4)
        clear hk4
        go_wp2
        rw [HWx.out]
        go_roundw
        case rel => exact ⟨k + 1, n, S, D, by omega, by go_num, by omega, HE7, HB1⟩
        case measure => simp [intOf]; omega
    · obtain rfl : k = m.length := by omega
      have hltI : ¬ (m.length : Int) < (m.length : Int) := by omega
      rw [List.take_length] at HE
      go_wp2
      go_ret
      exact ⟨g, g + 1, n, S, D, rfl, HE.out, by rw [HGG.out]; exact Nat.le_refl _, by rw [HGG.out]; exact HBE.out⟩
end Go.Proofs.Ytnadhpajelkngaa
