/- strings.Builder, of the call's own: WriteByte, WriteString, Len, told of all other blocks that hold no bytes. Condition: no more than 2^46 bytes. -/
import Derived.RangeFuncFrom
import Derived.Test.YtkckgchohnkkpaaGreatDoorMTBuild
/- strings.Builder, of the call's own: WriteByte, WriteString, Len, told of all other blocks that hold no bytes. Condition: no more than 2^46 bytes. -/
namespace Go.Proofs.YtkckgchohnkkpaaGreatDoor
open Go.RowKit Go.Deep

/-- All blocks of cells but one that hold no bytes stay. -/
def KeepT (b : Nat) (w w' : World) : Prop := ∀ (k : Nat) (cs : Array Value) (T : TypeId) (fr : Nat × Nat), k ≠ b → T ≠ 5 → w.heap[k]? = some (.cells cs T fr) → w'.heap[k]? = some (.cells cs T fr)
theorem KeepT.refl (b : Nat) (w : World) : KeepT b w w := fun _ _ _ _ _ _ h => h
theorem KeepT.trans {b : Nat} {x y z : World} (h : KeepT b x y) (k : KeepT b y z) : KeepT b x z := fun i cs T fr hi hT hk => k i cs T fr hi hT (h i cs T fr hi hT hk)
theorem KeepT.set (b i : Nat) (v : Value) (w : World) : KeepT b w (w.setCell ⟨b, i, none⟩ v) := fun k cs T fr hk _ h => by rw [Below.heap_setCell _ _ _ _ hk]; exact h
theorem KeepT.alloc (b : Nat) (w : World) (o : Obj) : KeepT b w (w.alloc o) := fun k cs T fr _ _ h => by rw [Below.heap_alloc _ _ _ (Array.getElem?_eq_some_iff.1 h).1]; exact h
theorem KeepT.of_below {b : Nat} {w w' : World} (h : Below w.heap.size w w') : KeepT b w w' := fun k cs T fr _ _ hk => by rw [h.block k (Array.getElem?_eq_some_iff.1 hk).1]; exact hk
theorem KeepT.put {b : Nat} {W : World} {l : Nat} {o : Obj} (o' : Obj) (h : W.heap[l]? = some o) (hc : o.isCells = false) : KeepT b W (W.putObj l o') := fun k cs T fr _ _ hk => by
  rw [World.putObj_heap_other (fun e => ?_)]
  · exact hk
  · rw [e, h] at hk
    injection hk with hk
    subst hk
    cases hc
theorem KeepT.grown {b B n : Nat} {v : Value} {xs : List Value} {w w' : World} (hown : w.ownsRow B 5 1 v n xs) (hg : w.grownBy w' v.ownBlock) : KeepT b w w' := fun k cs T fr _ hT hk => by
  have hne := Lib.ownBlock_ne hown hk hT
  rw [hg.block k (Array.getElem?_eq_some_iff.1 hk).1 (fun e => hne e.symm)]
  exact hk
theorem checkK_any (B b : Nat) (bs : List Value) (w : World) (h : Lib.IsBuilder 83 5 B b bs w) :
    Calls Tryz.prog 83 #[.pointer (some ⟨b, 0, none⟩)] w fun e w' => e = .returned (.tuple #[]) ∧ (Lib.BuilderAt 83 5 B b (.pointer (some ⟨b, 0, none⟩)) bs w' ∧ Below B w w') ∧ KeepT b w w' ∧ KeepsOthers w w' := by
  rcases h with h | h
  · refine (check_fresh b w h.cell0 h.shape h.frozen0).mono ?_
    rintro e w' ⟨rfl, rfl⟩
    exact ⟨rfl, ⟨h.used _, (Below.refl B w).setCell (p := ⟨b, 0, none⟩) h.1 _⟩, KeepT.set b 0 _ w, KeepsOthers.setCell _ _ _⟩
  · refine (check_used b w h.cell0).mono ?_
    rintro e w' ⟨rfl, rfl⟩
    exact ⟨rfl, ⟨h, Below.refl B _⟩, KeepT.refl b _, KeepsOthers.refl _⟩
theorem others_grown {B n : Nat} {v : Value} {xs : List Value} {w w' : World} (hown : w.ownsRow B 5 1 v n xs) (hg : w.grownBy w' v.ownBlock) : KeepsOthers w w' :=
  ⟨hg.size, fun k o hk ho => by
    refine (hg.block k (Array.getElem?_eq_some_iff.1 hk).1 (fun e => ?_)).trans hk
    rcases hown.2 with ⟨rfl, _⟩ | ⟨g, cap, cur, rfl, _, hgb, _⟩
    · cases e
    · injection e with e
      subst e
      rw [hk] at hgb
      injection hgb with hgb
      subst hgb
      cases ho⟩
set_option maxHeartbeats 2000000 in
set_option maxRecDepth 100000 in
theorem writeStringK_any (B b : Nat) (l t : List Nat) (w : World) (h : BldAt B b l w) (hl : l.length + t.length ≤ 70368744177664) (hBw : B ≤ w.heap.size) :
    Calls Tryz.prog 56 #[.pointer (some ⟨b, 0, none⟩), .string (bstr t)] w fun e w' => e = .returned (.tuple #[.int .i64 (t.length : Int), .nilIface]) ∧ BldAt B b (l ++ t) w' ∧ Below B w w' ∧ KeepT b w w' ∧ KeepsOthers w w' := by
  obtain ⟨i0, hi, hz0, hz1, hz2⟩ := info_parts byte_info
  have hsz := bstr_size t
  obtain ⟨bs, HBS⟩ : ∃ bs, Hid (Lib.byteCells (l.map fun x : Nat => UInt8.ofNat x) = bs) := ⟨_, Lib.hid rfl⟩
  have HLEN : Hid (bs.length = l.length) := by show _ = _; rw [← HBS.out, Lib.byteCells_length, List.length_map]
  have HFIN : Hid (bs ++ Lib.strCells (bstr t) = Lib.byteCells ((l ++ t).map fun x : Nat => UInt8.ofNat x)) := by
    show _ = _
    rw [← HBS.out, List.map_append, Lib.strCells, bstr_data]
    simp [Lib.byteCells]
  have h' : Lib.IsBuilder 83 5 B b bs w := by rw [← HBS.out]; exact h
  have GK := Lib.hid (checkK_any B b bs w h')
  clear h h'
  go_enter Tryz.func56, Tryz.ntmps56
  go_wp2_with fail
  refine GK.out.mono ?_
  rintro e w1 ⟨rfl, ⟨h1, hb1⟩, hk1, ho1⟩
  obtain ⟨hB, v, hbk, hown, hne⟩ := h1
  have c0 : w1.cell? ⟨b, 0, none⟩ = some (.pointer (some ⟨b, 0, none⟩)) := by rw [Lib.cell_of_heap hbk]; rfl
  have c1 : w1.cell? ⟨b, 1, none⟩ = some v := by rw [Lib.cell_of_heap hbk]; rfl
  go_wp2_with (at_builtin; refine Lib.wpList_append_own_string _ rfl _ _ 66 9 rfl B 5 i0 Tryz.underlying66 Tryz.underlying9 hi hz0 hz1 hz2 _ _ _ rfl hown (bstr t) rfl ?c3 ?c4 ?c5 ?_)
  case c3 => unfold maxLen; have := HLEN.out; omega
  case c4 => have := HLEN.out; omega
  case c5 => have := hb1.size; omega
  intro v' w2 hown' hgrow _
  have hlt : b < w1.heap.size := by
    rcases Nat.lt_or_ge b w1.heap.size with h' | h'
    · exact h'
    · simp [Array.getElem?_eq_none h'] at hbk
  have hb2 : w2.heap[b]? = some (.cells #[.pointer (some ⟨b, 0, none⟩), v] 83 (0, 0)) := by
    rw [hgrow.block b hlt (fun e => hne e.symm)]
    exact hbk
  have d1 : w2.cell? ⟨b, 1, none⟩ = some v := by rw [Lib.cell_of_heap hb2]; rfl
  have f1 : w2.frozen? ⟨b, 1, none⟩ = false := Lib.frozen_of_heap hb2 1
  obtain ⟨ao, n', cap, rfl⟩ : ∃ ao n' cap, v' = .slice ao n' cap := by
    rcases hown'.2 with ⟨hv, _⟩ | ⟨g, cap, cur, hv, _⟩
    · exact ⟨_, _, _, hv⟩
    · exact ⟨_, _, _, hv⟩
  go_wp2
  go_ret2
  refine ⟨rfl, ?_, ?_, (hk1.trans (KeepT.grown hown hgrow)).trans (KeepT.set b 1 _ _), (ho1.trans (others_grown hown hgrow)).trans (KeepsOthers.setCell _ _ _)⟩
  · rw [BldAt, ← HFIN.out]
    exact .inr (Lib.BuilderAt.put (T := 83) (e := 5) hB hb2 (bs' := bs ++ Lib.strCells (bstr t)) (by rw [List.length_append, Lib.strCells_length, hsz]; exact hown') (by decide))
  · exact (hb1.grown hgrow (by have := hb1.size; omega) (fun k hk => (hown.lt k hk).1)).setCell (p := ⟨b, 1, none⟩) hB _
theorem cell_one (w : World) (v : Value) (t : TypeId) : (w.alloc (.cells #[v] t)).cell? ⟨w.heap.size, 0, none⟩ = some v := by
  rw [cell_of_row _ _ _ _ _ _ (heap_alloc_new w _)]
  rfl
set_option maxHeartbeats 2000000 in
set_option maxRecDepth 100000 in
theorem writeByte_any (B b : Nat) (l : List Nat) (c : Nat) (hc : c < 256) (w : World) (h : BldAt B b l w) (hl : l.length ≤ 70368744177663) (hBw : B ≤ w.heap.size) :
    Calls Tryz.prog 55 #[.pointer (some ⟨b, 0, none⟩), .int .u8 (c : Int)] w fun e w' => e = .returned .nilIface ∧ BldAt B b (l ++ [c]) w' ∧ Below B w w' ∧ KeepT b w w' ∧ KeepsOthers w w' := by
  obtain ⟨i0, hi, hz0, hz1, hz2⟩ := info_parts byte_info
  obtain ⟨bs, HBS⟩ : ∃ bs, Hid (Lib.byteCells (l.map fun x : Nat => UInt8.ofNat x) = bs) := ⟨_, Lib.hid rfl⟩
  have HLEN : Hid (bs.length = l.length) := by show _ = _; rw [← HBS.out, Lib.byteCells_length, List.length_map]
  have HFIN : Hid (bs ++ [.int .u8 (c : Int)] = Lib.byteCells ((l ++ [c]).map fun x : Nat => UInt8.ofNat x)) := by
    show _ = _
    rw [← HBS.out, List.map_append]
    simp [Lib.byteCells]
    omega
  have h' : Lib.IsBuilder 83 5 B b bs w := by rw [← HBS.out]; exact h
  have GK := Lib.hid (checkK_any B b bs w h')
  clear h h'
  go_enter Tryz.func55, Tryz.ntmps55
  go_wp2_with fail
  refine GK.out.mono ?_
  rintro e w1 ⟨rfl, ⟨h1, hb1⟩, hk1, ho1⟩
  obtain ⟨hB, v, hbk, hown, hne⟩ := h1
  have c0 : w1.cell? ⟨b, 0, none⟩ = some (.pointer (some ⟨b, 0, none⟩)) := by rw [Lib.cell_of_heap hbk]; rfl
  have c1 : w1.cell? ⟨b, 1, none⟩ = some v := by rw [Lib.cell_of_heap hbk]; rfl
  have HCO := Lib.hid (cell_one w1 (.int .u8 (c : Int)) 5)
  have HOWN2 := Lib.hid (hown.alloc (.cells #[.int .u8 (c : Int)] 5))
  go_wp2_with (at_builtin
               refine wpList_append_own _ rfl (.tmp 11) (.tmp 13) 66 rfl B 5 i0 (.int .u8 0) 1 1 Tryz.underlying66 hi hz0 hz1 hz2 rfl (by decide) v bs.length bs rfl HOWN2.out ⟨w1.heap.size, 0, none⟩ 1 1 [.int .u8 (c : Int)] rfl rfl ?c2 ?c3 ?c4 ?c5 ?c6 ?_)
  case c2 =>
    intro j u hj
    rcases j with _ | j
    · simp at hj
      rw [← hj]
      exact HCO.out
    · simp at hj
  case c3 =>
    intro u hu
    rw [List.mem_singleton.1 hu]
    rfl
  case c4 => unfold maxLen; have := HLEN.out; omega
  case c5 => have := HLEN.out; omega
  case c6 => have := hb1.size; simp; omega
  intro v' w2 hown' hgrow _
  have hlt : b < w1.heap.size := by
    rcases Nat.lt_or_ge b w1.heap.size with h' | h'
    · exact h'
    · simp [Array.getElem?_eq_none h'] at hbk
  have hb2 : w2.heap[b]? = some (.cells #[.pointer (some ⟨b, 0, none⟩), v] 83 (0, 0)) := by
    rw [hgrow.block b (by simp; omega) (fun e => hne e.symm), Below.heap_alloc _ _ _ hlt]
    exact hbk
  have d1 : w2.cell? ⟨b, 1, none⟩ = some v := by rw [Lib.cell_of_heap hb2]; rfl
  have f1 : w2.frozen? ⟨b, 1, none⟩ = false := Lib.frozen_of_heap hb2 1
  obtain ⟨ao, n', cap, rfl⟩ : ∃ ao n' cap, v' = .slice ao n' cap := by
    rcases hown'.2 with ⟨hv, _⟩ | ⟨g, cap, cur, hv, _⟩
    · exact ⟨_, _, _, hv⟩
    · exact ⟨_, _, _, hv⟩
  go_wp2
  go_ret
  refine ⟨rfl, ?_, ?_, ((hk1.trans (KeepT.alloc b _ _)).trans (KeepT.grown HOWN2.out hgrow)).trans (KeepT.set b 1 _ _), ((ho1.trans (KeepsOthers.alloc _ _)).trans (others_grown HOWN2.out hgrow)).trans (KeepsOthers.setCell _ _ _)⟩
  · rw [BldAt, ← HFIN.out]
    exact .inr (Lib.BuilderAt.put (T := 83) (e := 5) hB hb2 (bs' := bs ++ [.int .u8 (c : Int)]) (by rw [List.length_append]; exact hown') (by decide))
  · exact ((hb1.alloc (by have := hb1.size; omega) _).grown hgrow (by have := hb1.size; simp; omega) (fun k hk => (hown.lt k hk).1)).setCell (p := ⟨b, 1, none⟩) hB _
theorem bldLen_any (B b : Nat) (l : List Nat) (w : World) (h : BldAt B b l w) :
    Calls Tryz.prog 54 #[.pointer (some ⟨b, 0, none⟩)] w fun e w' => e = .returned (.int .i64 (l.length : Nat)) ∧ w' = w := by
  have := Tryz.Builder_Len B b _ w h
  rw [Lib.byteCells_length, List.length_map] at this
  exact this
/-- A builder in a world where other than cells has turned. -/
theorem BldAt.kept {B b : Nat} {l : List Nat} {W W' : World} {row : Option Nat} (h : BldAt B b l W) (hg : W.grownBy W' row) (hr : ∀ r, row = some r → ∃ o : Obj, W.heap[r]? = some o ∧ o.isCells = false) : BldAt B b l W' := by
  have key : ∀ (k : Nat) (cs : Array Value) (t : TypeId) (fr : Nat × Nat), W.heap[k]? = some (.cells cs t fr) → W'.heap[k]? = some (.cells cs t fr) := fun k cs t fr hk => by
    have hlt : k < W.heap.size := by
      rcases Nat.lt_or_ge k W.heap.size with h | h
      · exact h
      · rw [Array.getElem?_eq_none h] at hk; cases hk
    rw [hg.block k hlt ?_]
    · exact hk
    · intro e
      obtain ⟨o, h1, h2⟩ := hr k e.symm
      rw [hk] at h1
      injection h1 with h1
      subst h1
      cases h2
  have own : ∀ (v : Value) (n : Nat) (xs : List Value), W.ownsRow B 5 1 v n xs → W'.ownsRow B 5 1 v n xs := fun v n xs ho => by
    refine ⟨ho.1, ?_⟩
    rcases ho.2 with h2 | ⟨g', cap, cur, hv, hgb, hh, h3, h4, h5⟩
    · exact .inl h2
    · exact .inr ⟨g', cap, cur, hv, hgb, key _ _ _ _ hh, h3, h4, h5⟩
  rcases h with h | h
  · obtain ⟨h1, v, h2, h3, h4⟩ := h
    exact .inl ⟨h1, v, key _ _ _ _ h2, own _ _ _ h3, h4⟩
  · obtain ⟨h1, v, h2, h3, h4⟩ := h
    exact .inr ⟨h1, v, key _ _ _ _ h2, own _ _ _ h3, h4⟩
end Go.Proofs.YtkckgchohnkkpaaGreatDoor
