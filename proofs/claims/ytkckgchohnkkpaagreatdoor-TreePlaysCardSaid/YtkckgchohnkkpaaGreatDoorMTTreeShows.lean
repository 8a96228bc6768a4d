/- The contract of the statements' own shows: a tree shows its nodes. Condition: a tree, that shows them. -/
import Derived.Test.YtkckgchohnkkpaaGreatDoorMSeek
import Derived.Test.YtkckgchohnkkpaaGreatDoorMChild
import Derived.Test.YtkckgchohnkkpaaGreatDoorMTTreeEq
import Derived.Test.YtkckgchohnkkpaaGreatDoorMTTreeOwn
import Derived.Test.YtkckgchohnkkpaaGreatDoorMTm
import Derived.Test.YtkckgchohnkkpaaGreatDoorMRk
import Derived.Test.YtkckgchohnkkpaaGreatDoorMMono
import Derived.BigQuiet
import Derived.Laws.Cover1
/- The contract of the statements' own shows: a tree shows its nodes. Condition: a tree, that shows them. -/
namespace Go.Proofs.YtkckgchohnkkpaaGreatDoor
open Go.RowKit Go.Deep

theorem NumsAt.ints {w : World} {A : Option Addr} {l : List Int} (h : NumsAt w A l) : IntsAt w A l := by
  by_cases h0 : l = []
  · exact .inl h0
  · obtain ⟨b, off, rfl, hlt⟩ := h.form (List.length_pos_iff.2 h0)
    refine .inr ⟨b, off, rfl, hlt, fun j c hj => ?_⟩
    obtain ⟨hjl, e⟩ := List.getElem?_eq_some_iff.1 hj
    rw [h.get hjl, e]
theorem OrdS.drew {W : World} {g : Nat} {l : List NodeV} {A : Option Addr} {wr : World} (h : OrdS W g l A wr) : OrdS W g l A wr.drew := ⟨h.1, h.2.1, Below.drew h.2.2⟩
theorem get_mem {l : List NodeV} (p : Option Addr) (hm : TreeM l) {y : NodeV} (hy : y ∈ l) (w : World) (h : TPtr w p l) :
    Calls Tryz.prog 19 #[.pointer p, .int .i64 y.id] w fun e w' => e = .returned (.tuple #[.agg (nodeCells y).toArray, .bool true]) ∧ Below w.heap.size w w' := by
  have := get_any p l hm y.id w h
  obtain ⟨k, hk, rfl⟩ := List.getElem_of_mem hy
  rw [getN, srt_find hm.srt hk] at this
  simp only [List.getElem?_eq_getElem hk, Option.getD_some, Option.isSome_some] at this
  exact this
theorem box_later {w w' : World} {k : Nat} {o : Obj} (h : w.heap[k]? = some o) (hb : Below w.heap.size w w') : w'.heap[k]? = some o := by rw [hb.block k (Array.getElem?_eq_some_iff.1 h).1]; exact h
theorem box_all {w : World} {k : Nat} {a b c d e : Value} {t : TypeId} {fr : Nat × Nat} (h : w.heap[k]? = some (.cells #[a, b, c, d, e] t fr)) : w.cell? ⟨k, 0, none⟩ = some a ∧ w.cell? ⟨k, 1, none⟩ = some b ∧ w.cell? ⟨k, 2, none⟩ = some c ∧ w.cell? ⟨k, 3, none⟩ = some d ∧ w.cell? ⟨k, 4, none⟩ = some e :=
  ⟨by rw [Lib.cell_of_heap h]; rfl, by rw [Lib.cell_of_heap h]; rfl, by rw [Lib.cell_of_heap h]; rfl, by rw [Lib.cell_of_heap h]; rfl, by rw [Lib.cell_of_heap h]; rfl⟩
set_option maxHeartbeats 8000000 in
set_option maxRecDepth 100000 in
theorem shows_yes (g : Nat) (l : List NodeV) (hm : TreeM l) (A : Option Addr) (c : Nat) (w : World) (h : TreeAt w g l) (hA : NodesAt w A l) :
    Calls Tryz.prog 13 #[.pointer (some ⟨g, 0, none⟩), .slice A l.length c] w fun e w' => e = .returned (.bool true) ∧ Below w.heap.size w w' := by
  have HM := Lib.hid hm
  have hl100 := hm.len
  have GN := Lib.hid (fun p w h => nodes_any p l (by omega) hm.slim w h)
  have GSN := Lib.hid (fun A2 c2 w h1 h2 => kSame hm hm A2 A c2 c w h1 h2)
  rw [sameN_self] at GSN
  have HS : Hid (OrdS w g l A w) := ⟨h, hA, Below.refl _ _⟩
  clear hm h hA
  go_enter Tryz.func13, Tryz.ntmps13
  go_wp2_with fail
  refine (GN.out _ _ HS.out.1.ptr).mono ?_
  rintro e w1 ⟨A2, c2, rfl, hn, hb⟩
  have HN := Lib.hid hn.nodes.1
  replace HS := Lib.hid (HS.out.below hb)
  clear hb hn
  go_wp2_with fail
  refine (GSN.out _ _ _ HN.out HS.out.2.1).mono ?_
  rintro e w2 ⟨rfl, hb⟩
  replace HS := Lib.hid (HS.out.below hb)
  clear hb HN GN GSN
  go_wp2
  go_loopw [5, 6, 7, 8, 9, 10, 11, 12, 13, 14, 15] (fun i s6 s7 s8 s9 s10 s11 s12 s13 s14 s15 wr => ∃ k : Nat, k ≤ l.length ∧ i = .int .i64 (k : Int) ∧ s6 = s6 ∧ s7 = s7 ∧ s8 = s8 ∧ s9 = s9 ∧ s10 = s10 ∧ s11 = s11 ∧ s12 = s12 ∧ s13 = s13 ∧ s14 = s14 ∧ s15 = s15 ∧ Hid (OrdS w g l A wr)) (fun i _ _ _ _ _ _ _ _ _ _ _ => l.length - (intOf i).toNat)
  case atStart => exact ⟨0, Nat.zero_le _, rfl, rfl, rfl, rfl, rfl, rfl, rfl, rfl, rfl, rfl, rfl, HS⟩
  case round =>
    clear HS
    obtain ⟨k, hk, rfl, _, _, _, _, _, _, _, _, _, _, HS⟩ := hrel
    by_cases hlt : k < l.length
    · obtain ⟨b, off, rfl, _⟩ := HS.out.2.1.form (by omega)
      have hltI : (k : Int) < (l.length : Int) := by omega
      have hmem := List.getElem_mem hlt
      have HY : Hid (∀ X : World, OrdS w g l (some ⟨b, off, none⟩) X → X.cell? ⟨b, off + k * 5, none⟩ = some (.int .i64 l[k].id) ∧ X.cell? ⟨b, off + k * 5 + 1, none⟩ = some (.int .i64 l[k].parent) ∧ X.cell? ⟨b, off + k * 5 + 2, none⟩ = some (.string (bstr l[k].name)) ∧ X.cell? ⟨b, off + k * 5 + 3, none⟩ = some (.bool l[k].dir) ∧ X.cell? ⟨b, off + k * 5 + 4, none⟩ = some (.string (bstr l[k].text))) := fun X h => h.2.1.at_ hlt
      obtain ⟨s, hs, _⟩ := HM.out.path_some hmem
      have GG := Lib.hid (fun p w h => get_mem p HM.out hmem w h)
      have GP := Lib.hid (path_told HM.out hs g)
      have GR : Hid (∀ w' : World, NodesAt w' (some ⟨b, off, none⟩) l → Calls Tryz.prog 36 #[.slice (some ⟨b, off, none⟩) l.length c, .int .i64 l[k].id] w' fun e w'' => e = .returned (.tuple #[.string (bstr s), .bool true]) ∧ Below w'.heap.size w' w'') := fun w' h => by
        have := kPath HM.out (some ⟨b, off, none⟩) c l[k].id w' h
        rw [hs] at this
        exact this
      have GF := Lib.hid (find_path HM.out hmem hs g)
      have GC : Hid (∀ w' : World, TreeAt w' g l → Calls Tryz.prog 37 #[.pointer (some ⟨g, 0, none⟩), .int .i64 l[k].parent, .string (bstr l[k].name)] w' fun e w'' => e = .returned (.tuple #[.int .i64 l[k].id, .bool true]) ∧ Below w'.heap.size w' w'') := fun w' h => by
        have := child_any (some ⟨g, 0, none⟩) l l[k].parent l[k].name (by omega) HM.out.good (name_bytes (HM.out.nd _ hmem).2.2.1) w' h.ptr
        rw [(child_of HM.out hmem).1, (child_of HM.out hmem).2] at this
        exact this
      have GK1 := Lib.hid (fun p w h => children_any p l HM.out l[k].id w h)
      have GK2 := Lib.hid (fun w h => kKids HM.out (some ⟨b, off, none⟩) c l[k].id w h)
      obtain ⟨K3, HK3⟩ : ∃ K3, Hid (kids l l[k].id l.length = K3) := ⟨_, Lib.hid rfl⟩
      have hKL : K3.length ≤ l.length := by
        rw [← HK3.out, kids_length (Nat.le_refl _)]
        exact Nat.le_trans (List.length_filter_le _ _) (by rw [List.length_take]; omega)
      rw [HK3.out] at GK1 GK2
      have GI : Hid (∀ (A B : Option Addr) (c d : Nat) (w' : World), NumsAt w' A (K3.map fun y => y.id) → NumsAt w' B (K3.map fun y => y.id) → Calls Tryz.prog 38 #[.slice A K3.length c, .slice B K3.length d] w' fun e w'' => e = .returned (.bool true) ∧ Below w'.heap.size w' w'') := fun A B c d w' h1 h2 => by
        have := alikeInts_same c d (by rw [List.length_map]; unfold maxLen; omega) w' h1.ints h2.ints
        rwa [List.length_map] at this
      clear hmem hs HK3
      generalize l[k] = y at *
      obtain ⟨yi, yp, yn, yd, yt⟩ := y
      simp only at HY GG GP GR GF GC GK1 GK2
      unfold nodeCells at GG
      simp only at GG
      obtain ⟨z0, z1, z2, z3, z4⟩ := HY.out _ HS.out
      go_wp2_with fail
      refine (GG.out _ _ HS.out.1.ptr).mono ?_
      rintro e x1 ⟨rfl, hb⟩
      replace HS := Lib.hid (HS.out.below hb)
      clear hb
      have HBX := Lib.hid (World.alloc_heap_new x1 (.cells #[.int .i64 yi, .int .i64 yp, .string (bstr yn), .bool yd, .string (bstr yt)] 44))
      have hb := (Below.refl x1.heap.size x1).alloc (Nat.le_refl _) (.cells #[.int .i64 yi, .int .i64 yp, .string (bstr yn), .bool yd, .string (bstr yt)] 44)
      replace HS := Lib.hid (HS.out.below hb)
      clear hb
      obtain ⟨z0, z1, z2, z3, z4⟩ := HY.out _ HS.out
      go_wp2_with fail
      refine (GP.out _ HS.out.1).mono ?_
      rintro e x2 ⟨rfl, hb⟩
      replace HS := Lib.hid (HS.out.below hb)
      replace HBX := Lib.hid (box_later HBX.out hb)
      clear hb
      obtain ⟨z0, z1, z2, z3, z4⟩ := HY.out _ HS.out
      go_wp2_with fail
      refine (GR.out _ HS.out.2.1).mono ?_
      rintro e x3 ⟨rfl, hb⟩
      replace HS := Lib.hid (HS.out.below hb)
      replace HBX := Lib.hid (box_later HBX.out hb)
      clear hb
      go_wp2_with fail
      refine (GF.out _ HS.out.1).mono ?_
      rintro e x4 ⟨rfl, hb⟩
      replace HS := Lib.hid (HS.out.below hb)
      replace HBX := Lib.hid (box_later HBX.out hb)
      clear hb
      obtain ⟨z0, z1, z2, z3, z4⟩ := HY.out _ HS.out
      go_wp2_with fail
      refine wp_region_lit [(0, true), (1, true), (2, true), (3, true), (4, true), (5, true), (6, true), (7, true), (8, true), (9, true), (10, true), (11, false), (12, true), (13, true), (14, true), (15, true), (16, true)] (by kernel_rfl) (by kernel_rfl) (fun _ _ d _ _ h => by cases d <;> exact h) ?_
      simp only [picked, List.map_cons, List.map_nil, List.getElem?_cons_succ, List.getElem?_cons_zero, Option.getD_some]
      replace HS := Lib.hid HS.out.drew
      replace HBX : Hid (x4.drew.heap[x1.heap.size]? = _) := HBX
      generalize x4.drew = wd at HS HBX ⊢
      have q0 := fun e : Ext wd => (HY.out e.val (HS.out.below e.property)).1
      have q1 := fun e : Ext wd => (HY.out e.val (HS.out.below e.property)).2.1
      have q2 := fun e : Ext wd => (HY.out e.val (HS.out.below e.property)).2.2.1
      have q3 := fun e : Ext wd => (HY.out e.val (HS.out.below e.property)).2.2.2.1
      have q4 := fun e : Ext wd => (HY.out e.val (HS.out.below e.property)).2.2.2.2
      repeat (refine wpL_quiet (by rfl) (fun K hK => ?_); go_big_quiet_op; refine hK _ ?_; clear hK K)
      clear q0 q1 q2 q3 q4
      refine wpL_call (by rfl) (fun K hK => ?_)
      go_simp
      refine (GC.out _ HS.out.1).mono ?_
      rintro e x5 ⟨rfl, hb⟩
      replace HS := Lib.hid (HS.out.below hb)
      replace HBX := Lib.hid (box_later HBX.out hb)
      refine hK _ _ hb ?_
      clear hK K hb
      repeat (refine wpL_quiet (by rfl) (fun K hK => ?_); go_big_quiet_op; refine hK _ ?_; clear hK K)
      refine wpL_nil ?_
      go_wp2
      refine wp_region_lit [(0, true), (1, true), (2, true), (3, true), (4, true), (5, true), (6, true), (7, true), (8, true), (9, true), (10, true), (11, true), (12, true), (13, true), (14, true), (15, true), (16, true), (17, true), (18, true), (19, true), (20, true), (21, true), (22, true), (23, true), (24, true), (25, true), (26, true), (27, true), (28, true), (29, true), (30, true), (31, true), (32, true), (33, true), (34, true), (35, true), (36, true), (37, true), (38, true), (39, true), (40, true), (41, true), (42, true), (43, true), (44, true), (45, true), (46, true), (47, true), (48, true), (49, true), (50, true), (51, true), (53, true), (54, true), (55, true), (56, true), (57, true), (58, true), (52, false), (59, false), (60, false), (61, true), (62, true)] (by kernel_rfl) (by kernel_rfl) (fun _ _ d _ _ h => by cases d <;> exact h) ?_
      simp only [picked, List.map_cons, List.map_nil, List.getElem?_cons_succ, List.getElem?_cons_zero, Option.getD_some]
      replace HS := Lib.hid HS.out.drew
      replace HBX : Hid (x5.drew.heap[x1.heap.size]? = _) := HBX
      generalize x5.drew = wd at HS HBX ⊢
      have q0 := fun e : Ext wd => (HY.out e.val (HS.out.below e.property)).1
      have q1 := fun e : Ext wd => (HY.out e.val (HS.out.below e.property)).2.1
      have q2 := fun e : Ext wd => (HY.out e.val (HS.out.below e.property)).2.2.1
      have q3 := fun e : Ext wd => (HY.out e.val (HS.out.below e.property)).2.2.2.1
      have q4 := fun e : Ext wd => (HY.out e.val (HS.out.below e.property)).2.2.2.2
      have u0 := fun e : Ext wd => (box_all (box_later HBX.out e.property)).1
      have u1 := fun e : Ext wd => (box_all (box_later HBX.out e.property)).2.1
      have u2 := fun e : Ext wd => (box_all (box_later HBX.out e.property)).2.2.1
      have u3 := fun e : Ext wd => (box_all (box_later HBX.out e.property)).2.2.2.1
      have u4 := fun e : Ext wd => (box_all (box_later HBX.out e.property)).2.2.2.2
      repeat (refine wpL_quiet (by rfl) (fun K hK => ?_); go_big_quiet_op; refine hK _ ?_; clear hK K)
      clear q0 q1 q2 q3 q4 u0 u1 u2 u3 u4
      refine wpL_call (by rfl) (fun K hK => ?_)
      go_simp
      refine (GK1.out _ _ HS.out.1.ptr).mono ?_
      rintro e x6 ⟨A3, c3, rfl, hk, hb⟩
      replace HS := Lib.hid (HS.out.below hb)
      replace HBX := Lib.hid (box_later HBX.out hb)
      have HC := Lib.hid hk.at_
      clear hk
      refine hK _ _ hb ?_
      clear hK K hb
      repeat (refine wpL_quiet (by rfl) (fun K hK => ?_); go_big_quiet_op; refine hK _ ?_; clear hK K)
      refine wpL_call (by rfl) (fun K hK => ?_)
      go_simp
      refine (GK2.out _ HS.out.2.1).mono ?_
      rintro e x7 ⟨⟨A4, c4, rfl, hk⟩, hb⟩
      replace HS := Lib.hid (HS.out.below hb)
      replace HBX := Lib.hid (box_later HBX.out hb)
      replace HC := Lib.hid (HC.out.below hb)
      have HD := Lib.hid hk
      clear hk
      refine hK _ _ hb ?_
      clear hK K hb
      repeat (refine wpL_quiet (by rfl) (fun K hK => ?_); go_big_quiet_op; refine hK _ ?_; clear hK K)
      refine wpL_call (by rfl) (fun K hK => ?_)
      go_simp
      refine (GI.out _ _ _ _ _ HC.out HD.out).mono ?_
      rintro e x8 ⟨rfl, hb⟩
      replace HS := Lib.hid (HS.out.below hb)
      replace HBX := Lib.hid (box_later HBX.out hb)
      refine hK _ _ hb ?_
      clear hK K hb
      repeat (refine wpL_quiet (by rfl) (fun K hK => ?_); go_big_quiet_op; refine hK _ ?_; clear hK K)
      refine wpL_nil ?_
      go_wp2
      go_roundw
      case rel => exact ⟨k + 1, by omega, by go_num, trivial, trivial, trivial, trivial, trivial, trivial, trivial, trivial, trivial, trivial, HS⟩
      case measure => simp [intOf]; omega

    · obtain rfl : k = l.length := by omega
      obtain ⟨w5, hw5⟩ : ∃ x, x = wr := ⟨wr, rfl⟩
      subst hw5
      have hf0 : rFind l 0 = none := rFind_no fun y hy => by have := HM.out.pos hy; omega
      have GG0 : Hid (∀ w' : World, TreeAt w' g l → Calls Tryz.prog 19 #[.pointer (some ⟨g, 0, none⟩), .int .i64 0] w' fun e w'' => e = .returned (.tuple #[.agg #[.int .i64 0, .int .i64 0, .string (bstr []), .bool false, .string (bstr [])], .bool false]) ∧ Below w'.heap.size w' w'') := fun w' h => by
        have := get_any (some ⟨g, 0, none⟩) l HM.out 0 w' h.ptr
        rw [getN, hf0] at this
        exact this
      have GP0 := Lib.hid (path_told HM.out (path_root l) g)
      have GF0 := Lib.hid (fun w => find_empty (some ⟨g, 0, none⟩) w)
      have GK1 := Lib.hid (fun p w h => children_any p l HM.out 0 w h)
      have GK2 := Lib.hid (fun w h => kKids HM.out A c 0 w h)
      obtain ⟨K3, HK3⟩ : ∃ K3, Hid (kids l 0 l.length = K3) := ⟨_, Lib.hid rfl⟩
      have hKL : K3.length ≤ l.length := by
        rw [← HK3.out, kids_length (Nat.le_refl _)]
        exact Nat.le_trans (List.length_filter_le _ _) (by rw [List.length_take]; omega)
      rw [HK3.out] at GK1 GK2
      have GI : Hid (∀ (A B : Option Addr) (c d : Nat) (w' : World), NumsAt w' A (K3.map fun y => y.id) → NumsAt w' B (K3.map fun y => y.id) → Calls Tryz.prog 38 #[.slice A K3.length c, .slice B K3.length d] w' fun e w'' => e = .returned (.bool true) ∧ Below w'.heap.size w' w'') := fun A B c d w' h1 h2 => by
        have := alikeInts_same c d (by rw [List.length_map]; unfold maxLen; omega) w' h1.ints h2.ints
        rwa [List.length_map] at this
      clear hf0 HK3
      have hem := empty_yes
      go_wp2_with fail
      refine (GG0.out _ HS.out.1).mono ?_
      rintro e x1 ⟨rfl, hb⟩
      replace HS := Lib.hid (HS.out.below hb)
      clear hb
      have hb := (Below.refl x1.heap.size x1).alloc (Nat.le_refl _) (.cells #[.int .i64 0, .int .i64 0, .string (bstr []), .bool false, .string (bstr [])] 44)
      replace HS := Lib.hid (HS.out.below hb)
      clear hb
      go_wp2_with fail
      refine (GP0.out _ HS.out.1).mono ?_
      rintro e x2 ⟨rfl, hb⟩
      replace HS := Lib.hid (HS.out.below hb)
      clear hb
      go_wp2_with fail
      refine (GF0.out _).mono ?_
      rintro e x3 ⟨rfl, hb⟩
      replace HS := Lib.hid (HS.out.below hb)
      clear hb
      go_wp2_with fail
      refine (GK1.out _ _ HS.out.1.ptr).mono ?_
      rintro e x4 ⟨A3, c3, rfl, hk, hb⟩
      replace HS := Lib.hid (HS.out.below hb)
      have HC := Lib.hid hk.at_
      clear hk hb
      go_wp2_with fail
      refine (GK2.out _ HS.out.2.1).mono ?_
      rintro e x5 ⟨⟨A4, c4, rfl, hk⟩, hb⟩
      replace HS := Lib.hid (HS.out.below hb)
      replace HC := Lib.hid (HC.out.below hb)
      have HD := Lib.hid hk
      clear hk hb
      go_wp2_with fail
      refine (GI.out _ _ _ _ _ HC.out HD.out).mono ?_
      rintro e x6 ⟨rfl, hb⟩
      replace HS := Lib.hid (HS.out.below hb)
      clear hb
      go_wp2
      go_ret
      exact ⟨rfl, HS.out.2.2⟩


end Go.Proofs.YtkckgchohnkkpaaGreatDoor
