/- The landed disk: the contracts of filled and New. No condition. -/
import Derived.Test.YtahfkcfbmklfpaaDiskRead
namespace Go.Proofs.Ytahfkcfbmklfpaa
open Go.RowKit Go.Deep

theorem eq_rep {α : Type} (a : α) : ∀ (l : List α) (n : Nat), l.length = n → (∀ x ∈ l, x = a) → l = List.replicate n a := by
  intro l
  induction l with
  | nil => intro n h _; subst h; rfl
  | cons x l ih =>
    intro n h hx
    subst h
    have h2 := ih l.length rfl fun y hy => hx y (by simp [hy])
    rw [List.length_cons, List.replicate_succ, hx x (by simp), ← h2]
/-- A disk on which these sectors are safe. -/
def fresh (S : List (Option (List Nat))) : DiskD := ⟨S, [], -1, false, 0⟩
def FilledEnd (b : Nat) (S : List (Option (List Nat))) (w : World) (e : Ending) (w' : World) : Prop :=
  ∃ g, e = .returned (.pointer (some ⟨g, 0, none⟩)) ∧ w.heap.size ≤ g ∧ g < w'.heap.size ∧ Below w.heap.size w w' ∧
    ∀ O : Nat → Prop, O b → (∀ x, w.heap.size ≤ x → x < w'.heap.size → O x) → (∀ x, O x → x < w'.heap.size) → LandAt O g (fresh S) w'
set_option maxRecDepth 100000 in
theorem filled_any (b c n : Nat) (S : List (Option (List Nat))) (hn : S.length = n) (h0 : 0 < n) (h1 : n ≤ 65536) (w : World) (h : SecRow w b (S.map secB)) :
    Calls Try.prog 23 #[.slice (some ⟨b, 0, none⟩) n c] w (FilledEnd b S w) := by
  subst hn
  have GC := clone_any b c (S.map secB) (by rw [List.length_map]; exact h0) (by rw [List.length_map]; exact h1) w h
  rw [List.length_map] at GC
  have GC := Lib.hid GC
  have H := Lib.hid h; clear h
  go_enter Try.func23, Try.ntmps23
  go_wp2_with fail
  refine GC.out.mono ?_
  rintro e w1 ⟨b1, c1, rfl, hb1, hs1, hu⟩
  rw [List.length_map]
  have HB1 := Lib.hid hb1; have HS1 := Lib.hid hs1; have HU := Lib.hid hu
  clear hb1 hs1 hu
  go_wp2
  go_ret
  refine ⟨w1.heap.size, rfl, HU.out.size, by simp, HU.out.alloc HU.out.size _, fun O hb hnew hlt => ?_⟩
  have hsz : (w1.alloc (.cells #[.slice (some ⟨b, 0, none⟩) S.length c, .slice (some ⟨b1, 0, none⟩) S.length c1, .slice none 0 0, .int .i64 0, .bool false, .int .i64 0, .bool false] 70)).heap.size = w1.heap.size + 1 := by simp
  have hbl : Below w1.heap.size w1 (w1.alloc (.cells #[.slice (some ⟨b, 0, none⟩) S.length c, .slice (some ⟨b1, 0, none⟩) S.length c1, .slice none 0 0, .int .i64 0, .bool false, .int .i64 0, .bool false] 70)) := (Below.refl _ _).alloc (Nat.le_refl _) _
  have hb1 := HB1.out
  have hs1 := HS1.out.1
  have hb0 := H.out.1
  have hU := HU.out.size
  rw [hsz] at hnew
  refine ⟨hnew _ hU (by omega), hlt, b, c, b1, c1, none, 0, false, 0, hb, hnew _ hb1 (by omega), (fun a ha => by cases ha), by omega, by omega, by omega, (fun a ha => by cases ha), ?_, ?_, ?_, World.ownsRow_nil _ _ _ _, by omega, by omega, .inl ⟨rfl, rfl, rfl⟩⟩
  · refine World.rowIs_alloc w1 _ _ _ fun i hi => ?_
    rcases seven (by simpa using hi) with rfl | rfl | rfl | rfl | rfl | rfl | rfl <;> rfl
  · exact (H.out.kept HU.out.size (HU.out.block b hb0)).kept hbl.size (hbl.block b (by omega))
  · exact HS1.out.kept hbl.size (hbl.block b1 hs1)

/-- What New tells: none and an error, or a disk of noughts, all of it new. -/
def LandNew (n : Int) (w : World) (e : Ending) (w' : World) : Prop :=
  ((n < 1 ∨ 65536 < n) ∧ e = .returned (.tuple #[.pointer none, .int .i64 1]) ∧ w = w') ∨
  ∃ (k g : Nat), n = (k : Int) ∧ 1 ≤ k ∧ k ≤ 65536 ∧ e = .returned (.tuple #[.pointer (some ⟨g, 0, none⟩), .int .i64 0]) ∧ LandAt (fun x => w.heap.size ≤ x ∧ x < w'.heap.size) g (DiskD.new k) w' ∧ w.heap.size ≤ g ∧ Below w.heap.size w w'
set_option maxHeartbeats 1000000 in
set_option maxRecDepth 100000 in
theorem landNew_any (n : Int) (w : World) : Calls Try.prog 8 #[.int .i64 n] w (LandNew n w) := by
  by_cases h1 : n < 1
  · go_enter Try.func8, Try.ntmps8
    go_wp2
    go_ret2
    exact .inl ⟨.inl h1, rfl, rfl⟩
  by_cases h2 : 65536 < n
  · go_enter Try.func8, Try.ntmps8
    go_wp2
    go_ret2
    exact .inl ⟨.inr h2, rfl, rfl⟩
  obtain ⟨k, rfl⟩ : ∃ k : Nat, n = (k : Int) := ⟨n.toNat, by omega⟩
  obtain ⟨i0, hi0, hz0, hz1, hz2⟩ := info_parts sector_info3
  have hk0 : 1 ≤ k := by omega
  have hk1 : k ≤ 65536 := by omega
  go_enter Try.func8, Try.ntmps8
  go_wp2_with (first
    | (at_make
       refine wpList_make_full w rfl (.tmp 10) (.tmp 10) 54 rfl w.heap.size 76 i0 (.agg (Array.replicate 64 (.int .u8 0))) 64 Try.underlying54 hi0 hz0 hz1 .i64 .i64 (k : Int) (k : Int) k rfl rfl rfl rfl (by rw [hz2]; omega) (by simp only [maxLen]; omega) (Nat.le_refl _) ?_
       intro w1 ho1 hg1
       have HO1 := Lib.hid ho1
       have HU1 : Hid (Below w.heap.size w w1) := (Below.refl _ _).grown hg1 (Nat.le_refl _) (fun k hk => by cases hk)
       clear ho1 hg1)
    | fail)
  have HS1 : Hid (SecRow w1 w.heap.size ((DiskD.new k).safe.map secB)) := by
    refine SecRow.of_own (n := k) (c := k) (base := w.heap.size) ?_ (fun x hx => ?_) (by simp [DiskD.new])
    · have e : ((DiskD.new k).safe.map secB).flatMap u8s = (madeCells (Value.cells (.agg (Array.replicate 64 (.int .u8 0)))) (k * 64)).toList := by
        have h1 : (madeCells (Value.cells (.agg (Array.replicate 64 (.int .u8 0)))) (k * 64)).toList = List.replicate (k * 64) (.int .u8 0) := by
          refine eq_rep _ _ _ (by simp [size_madeCells]) fun x hx => ?_
          simp only [madeCells, Array.toList_map, List.mem_map] at hx
          obtain ⟨i, _, rfl⟩ := hx
          simp [Value.cells, Nat.mod_lt]
        rw [h1]
        refine eq_rep _ _ _ ?_ fun x hx => ?_
        · rw [flatm_length u8s 64 _ (fun x hx => by simp [DiskD.new, secB, noughts] at hx; rw [hx.2]; simp [u8s])]
          simp [DiskD.new]
        · obtain ⟨y, hy, hx⟩ := List.mem_flatMap.1 hx
          obtain ⟨o, ho, rfl⟩ := List.mem_map.1 hy
          rw [show o = none from List.eq_of_mem_replicate ho] at hx
          obtain ⟨z, hz, rfl⟩ := List.mem_map.1 hx
          rw [show z = 0 from List.eq_of_mem_replicate hz]
          rfl
      rw [e]
      exact HO1.out
    · simp [DiskD.new, secB, noughts] at hx
      rw [hx.2]
      simp
  refine (filled_any w.heap.size k k (DiskD.new k).safe (by simp [DiskD.new]) hk0 hk1 w1 HS1.out).mono ?_
  rintro e w2 ⟨g, rfl, hg, hgl, hb2, hl⟩
  have HL := Lib.hid hl; have HB2 := Lib.hid hb2
  clear hl hb2
  go_wp2
  go_ret2
  have hU := HU1.out.size
  have hU2 := HB2.out.size
  have hlt := HS1.out.1
  exact .inr ⟨k, g, rfl, hk0, hk1, rfl, HL.out _ ⟨Nat.le_refl _, by omega⟩ (fun x h1 h2 => ⟨by omega, h2⟩) (fun x hx => hx.2), by omega, HU1.out.trans (HB2.out.mono hU)⟩
end Go.Proofs.Ytahfkcfbmklfpaa
