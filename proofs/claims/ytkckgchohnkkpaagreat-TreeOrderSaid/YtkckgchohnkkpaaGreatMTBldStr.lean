/- strings.Builder's String, told of all that holds no cells. No condition. -/
import Derived.RangeFuncCalls
import Derived.Test.YtkckgchohnkkpaaGreatMTBuildB
/- strings.Builder's String, told of all that holds no cells. No condition. -/
namespace Go.Proofs.YtkckgchohnkkpaaGreat
open Go.RowKit Go.Deep

theorem others_freeze {g n : Nat} {cs : Array Value} {T : TypeId} {fr : Nat × Nat} {w : World} (h : w.heap[g]? = some (.cells cs T fr)) : KeepsOthers w (w.freeze ⟨g, 0, none⟩ n) := by
  have hb := Lib.below_freeze (B := 0) (Below.refl 0 w) (p := ⟨g, 0, none⟩) (Nat.zero_le _) n
  refine ⟨hb.size, fun k o hk ho => ?_⟩
  have hne : k ≠ g := by
    rintro rfl
    rw [h] at hk
    injection hk with hk
    subst hk
    cases ho
  rcases Nat.lt_or_ge k g with hlt | hge
  · have := Lib.below_freeze (B := g) (Below.refl g w) (p := ⟨g, 0, none⟩) (Nat.le_refl _) n
    rw [this.block k hlt]
    exact hk
  · unfold World.freeze
    split
    · exact hk
    · show (w.heap.modify g _)[k]? = some o
      rw [Array.getElem?_modify, if_neg (fun e => hne e.symm)]
      exact hk
theorem others_below {w w' : World} (h : Below w.heap.size w w') : KeepsOthers w w' := ⟨h.size, fun k o hk _ => by rw [h.block k (Array.getElem?_eq_some_iff.1 hk).1]; exact hk⟩
theorem byte_cells : Tryz.prog.cellsOf 5 = 1 := by kernel_rfl
set_option maxHeartbeats 1000000 in
set_option maxRecDepth 100000 in
theorem bldStrK_any (b : Nat) (l : List Nat) (w : World) (h : BldAt b b l w) (hbw : b ≤ w.heap.size) :
    Calls Tryz.prog 31 #[.pointer (some ⟨b, 0, none⟩)] w fun e w' => e = .returned (.string (bstr l)) ∧ Below b w w' ∧ KeepsOthers w w' := by
  have hstr : (⟨(l.map fun x : Nat => UInt8.ofNat x).toArray⟩ : ByteArray) = bstr l := bstr_of_data (by simp)
  unfold BldAt at h
  generalize l.map (fun x : Nat => UInt8.ofNat x) = u at h hstr
  obtain ⟨p, hB, v, hbk, hown, hne⟩ : ∃ p, Lib.BuilderAt 59 5 b b p (Lib.byteCells u) w := by
    rcases h with h | h
    · exact ⟨_, h⟩
    · exact ⟨_, h⟩
  rw [← hstr]
  clear h hstr
  rw [Lib.byteCells_length] at hown
  by_cases h0 : u = []
  · subst h0
    rcases hown.2 with ⟨rfl, _⟩ | ⟨g, cap, cur, rfl, hbg, hg, _, _, _, _⟩
    · refine (Any.Builder_String_nil Tryz.lays169 Tryz.Builder_Extra_169 w.heap.size b p w hbk).mono ?_
      rintro e w' ⟨rfl, hb⟩
      exact ⟨rfl, hb.mono hbw, others_below hb⟩
    · by_cases hc0 : cap = 0
      · subst hc0
        refine (Any.Builder_String_noroom Tryz.lays169 Tryz.Builder_Extra_169 w.heap.size b g p cur w (Nat.le_refl _) hbk hg).mono ?_
        rintro e w' ⟨rfl, hb⟩
        exact ⟨rfl, hb.mono hbw, others_below hb⟩
      · refine (Any.Builder_String_room Tryz.lays169 Tryz.Builder_Extra_169 w.heap.size b g cap p w hc0 hbk).mono ?_
        rintro e w' ⟨rfl, hb⟩
        exact ⟨rfl, hb.mono hbw, others_below hb⟩
  · have hl0 : u.length ≠ 0 := by simpa using h0
    obtain ⟨g, cap, cur, rfl, hbg, hg, hnc, hcm, hcs, htake⟩ : ∃ g cap cur, v = .slice (some ⟨g, 0, none⟩) u.length cap ∧ b ≤ g ∧ w.heap[g]? = some (.cells cur 5 (0, 0)) ∧ u.length ≤ cap ∧ cap ≤ maxLen ∧ cur.size = cap * 1 ∧ cur.toList.take (u.length * 1) = Lib.byteCells u := by
      rcases hown.2 with ⟨_, hz⟩ | ⟨g, cap, cur, hv, r⟩
      · exact absurd hz hl0
      · exact ⟨g, cap, cur, hv, r⟩
    have c1 : w.drew.cell? ⟨b, 1, none⟩ = some (.slice (some ⟨g, 0, none⟩) u.length cap) := by
      have : w.drew.heap[b]? = some (.cells #[p, .slice (some ⟨g, 0, none⟩) u.length cap] 59 (0, 0)) := hbk
      rw [Lib.cell_of_heap this]; rfl
    have hSD : (Builtin.unsafeSliceData_ #[57] 84 #[.slice (some ⟨g, 0, none⟩) u.length cap]).run Tryz.prog w.drew = .ok (.pointer (some ⟨g, 0, none⟩)) w.drew :=
      Lib.run_unsafeSliceData_row _ _ _ _ _ _ (by omega)
    have hUS : (Builtin.unsafeString_ #[84, 3] 9 #[.pointer (some ⟨g, 0, none⟩), .int .i64 u.length]).run Tryz.prog w.drew = .ok (.string ⟨u.toArray⟩) (w.drew.freeze ⟨g, 0, none⟩ u.length) := by
      refine Lib.run_unsafeString_row w.drew 84 3 9 5 Tryz.underlying84 byte_cells g cur.size (by have hg' : w.drew.heap[g]? = some (.cells cur 5 (0, 0)) := hg; simp [World.shape?, hg']) u h0 (by omega) (by unfold maxLen at hcm; omega) ?_
      intro j x hx
      have := hown.cells (g := g) rfl j (.int .u8 x.toNat) (by simp [Lib.byteCells, hx])
      exact this
    have mixed := Tryz.lays169.mixed
    go_enter Tryz.func31, Tryz.ntmps31
    go_wp2
    go_region_o
    all_goals (go_wp2; go_ret; exact ⟨rfl, Lib.below_freeze (Below.drew (Below.refl b w)) (p := ⟨g, 0, none⟩) hbg _, (KeepsOthers.drew w).trans (others_freeze (w := w.drew) hg)⟩)
end Go.Proofs.YtkckgchohnkkpaaGreat
