/- The landed tree: one in which nothing stands is taken away. Conditions: a tree, an act that may be. -/
import Derived.Test.YtkckgchohnkkpaaGreatMTTreeChildren
/- The landed tree: one in which nothing stands is taken away. Conditions: a tree, an act that may be. -/
namespace Go.Proofs.YtkckgchohnkkpaaGreat
open Go.RowKit Go.Deep

set_option maxHeartbeats 4000000 in
set_option maxRecDepth 100000 in
theorem remove_any (g : Nat) (l : List NodeV) (a : ActV) (hm : TreeM l) (ha : ActOk a) (hk : a.kind = 2) (w : World) (h : TreeAt w g l) (hop : CompsAt w a.opsA a.ops) :
    Calls Tryz.prog 40 #[.pointer (some ⟨g, 0, none⟩), .agg (actCells a).toArray] w (DoRes w g l a) := by
  have HM := Lib.hid hm
  have HT := Lib.hid h
  have HA := Lib.hid ha
  have HOP := Lib.hid hop
  have hl := hm.len
  have HTW : Hid (∀ w', Below w.heap.size w w' → TreeAt w' g l) := fun w' hb => HT.out.below hb
  have HR := Lib.hid (act_row w a)
  have HBA := Lib.hid ((Below.refl w.heap.size w).alloc (Nat.le_refl _) (.cells #[.int .i64 a.kind, .int .i64 a.id, .int .i64 a.parent, .string (bstr a.name), .bool a.dir, .slice a.opsA a.ops.length a.opsC] 46))
  obtain ⟨w1, HW1⟩ : ∃ x, Hid (w.alloc (.cells #[.int .i64 a.kind, .int .i64 a.id, .int .i64 a.parent, .string (bstr a.name), .bool a.dir, .slice a.opsA a.ops.length a.opsC] 46) = x) := ⟨_, Lib.hid rfl⟩
  rw [HW1.out] at HR HBA
  have HB1 := Lib.hid (Below.refl w1.heap.size w1)
  have HGL : Hid (g < w.heap.size) := h.lt
  have GAT := Lib.hid (fun (w' : World) (hb : Below w.heap.size w w') => at_any _ l a.id hm.srt (by omega) w' (HTW.out w' hb).ptr)
  have GKI := Lib.hid (fun (w' : World) (hb : Below w.heap.size w w') => children_any _ l hm a.id w' (HTW.out w' hb).ptr)
  have HK := Lib.hid hk
  clear h hop ha hk
  cases hf : rFind l a.id with
  | none =>
    have HE := Lib.hid (rDo_r1 HK.out hf)
    rw [hf] at GAT
    clear hf hm
    unfold actCells
    go_enter Tryz.func40, Tryz.ntmps40
    obtain ⟨q0, q1, q2, q3, q4, q5⟩ := act_row_at HR.out
    rw [← HW1.out] at q0 q1 q2 q3 q4 q5
    go_wp2_with fail
    rw [HW1.out]
    rw [HW1.out] at q0 q1 q2 q3 q4 q5
    refine (GAT.out w1 (HBA.out.trans (HB1.out.mono HBA.out.size))).mono ?_
    rintro e w2 ⟨rfl, hb⟩
    have HB2 := Lib.hid (HB1.out.trans (hb.mono HB1.out.size))
    clear hb q0 q1 q2 q3 q4 q5
    obtain ⟨q0, q1, q2, q3, q4, q5⟩ := act_row_at (HR.out.of_block (HB2.out.block _ HR.out.lt))
    go_wp2
    go_ret
    exact doRes_of HE.out rfl (HTW.out _ (HBA.out.trans (HB2.out.mono HBA.out.size))) (Only.of_below (HBA.out.trans (HB2.out.mono HBA.out.size)))
  | some k =>
    obtain ⟨hkl, hki, _⟩ := rFind_some hf
    have GPUT := Lib.hid (fun (w' : World) (ht : TreeAt w' g l) => put_any g l [] none 0 k (k + 1) (by omega) (by omega) (by simp; omega) w' ht (.inl rfl))
    rw [hf, srt_at hm.srt hf] at GAT
    obtain ⟨n, HN⟩ : ∃ n, Hid ((kids l a.id l.length).length = n) := ⟨_, Lib.hid rfl⟩
    rw [HN.out] at GKI
    by_cases hn : 0 < n
    · have HE := Lib.hid (rDo_r2 HK.out hf (by
        obtain ⟨y, hy⟩ := List.exists_mem_of_length_pos (by rw [HN.out]; exact hn : 0 < (kids l a.id l.length).length)
        rw [kids_mem (Nat.le_refl _), List.take_length] at hy
        exact ⟨y, hy.1, hy.2⟩))
      clear hf hm
      unfold actCells
      go_enter Tryz.func40, Tryz.ntmps40
      obtain ⟨q0, q1, q2, q3, q4, q5⟩ := act_row_at HR.out
      rw [← HW1.out] at q0 q1 q2 q3 q4 q5
      go_wp2_with fail
      rw [HW1.out]
      rw [HW1.out] at q0 q1 q2 q3 q4 q5
      refine (GAT.out w1 (HBA.out.trans (HB1.out.mono HBA.out.size))).mono ?_
      rintro e w2 ⟨rfl, hb⟩
      have HB2 := Lib.hid (HB1.out.trans (hb.mono HB1.out.size))
      clear hb q0 q1 q2 q3 q4 q5
      obtain ⟨q0, q1, q2, q3, q4, q5⟩ := act_row_at (HR.out.of_block (HB2.out.block _ HR.out.lt))
      go_wp2_with fail
      refine (GKI.out w2 (HBA.out.trans (HB2.out.mono HBA.out.size))).mono ?_
      rintro e w3 ⟨A, c, rfl, ho, hb⟩
      have HB3 := Lib.hid (HB2.out.trans (hb.mono HB2.out.size))
      clear ho
      clear hb q0 q1 q2 q3 q4 q5
      obtain ⟨q0, q1, q2, q3, q4, q5⟩ := act_row_at (HR.out.of_block (HB3.out.block _ HR.out.lt))
      go_wp2
      go_ret
      exact doRes_of HE.out rfl (HTW.out _ (HBA.out.trans (HB3.out.mono HBA.out.size))) (Only.of_below (HBA.out.trans (HB3.out.mono HBA.out.size)))
    · have HE := Lib.hid (rDo_r3 HK.out hf (by
        rintro ⟨y, hy, e⟩
        have : y ∈ kids l a.id l.length := (kids_mem (Nat.le_refl _)).2 ⟨by rw [List.take_length]; exact hy, e⟩
        have := List.length_pos_of_mem this
        rw [HN.out] at this
        exact hn this))
      obtain rfl : n = 0 := by omega
      clear hf hm hn
      unfold actCells
      go_enter Tryz.func40, Tryz.ntmps40
      obtain ⟨q0, q1, q2, q3, q4, q5⟩ := act_row_at HR.out
      rw [← HW1.out] at q0 q1 q2 q3 q4 q5
      go_wp2_with fail
      rw [HW1.out]
      rw [HW1.out] at q0 q1 q2 q3 q4 q5
      refine (GAT.out w1 (HBA.out.trans (HB1.out.mono HBA.out.size))).mono ?_
      rintro e w2 ⟨rfl, hb⟩
      have HB2 := Lib.hid (HB1.out.trans (hb.mono HB1.out.size))
      clear hb q0 q1 q2 q3 q4 q5
      obtain ⟨q0, q1, q2, q3, q4, q5⟩ := act_row_at (HR.out.of_block (HB2.out.block _ HR.out.lt))
      go_wp2_with fail
      refine (GKI.out w2 (HBA.out.trans (HB2.out.mono HBA.out.size))).mono ?_
      rintro e w3 ⟨A, c, rfl, ho, hb⟩
      have HB3 := Lib.hid (HB2.out.trans (hb.mono HB2.out.size))
      clear ho
      clear hb q0 q1 q2 q3 q4 q5
      obtain ⟨q0, q1, q2, q3, q4, q5⟩ := act_row_at (HR.out.of_block (HB3.out.block _ HR.out.lt))
      go_wp2_with fail
      refine (GPUT.out w3 (HTW.out _ (HBA.out.trans (HB3.out.mono HBA.out.size)))).mono ?_
      rintro e w4 ⟨rfl, ht, ho⟩
      have HFT := Lib.hid ht
      have HFO : Hid (Only g w w4) := (Only.of_below (HBA.out.trans (HB3.out.mono HBA.out.size))).trans ho
      clear ht ho
      go_wp2
      go_ret
      refine doRes_of HE.out rfl ?_ HFO.out
      have := HFT.out
      unfold spl at this
      simpa using this
end Go.Proofs.YtkckgchohnkkpaaGreat
