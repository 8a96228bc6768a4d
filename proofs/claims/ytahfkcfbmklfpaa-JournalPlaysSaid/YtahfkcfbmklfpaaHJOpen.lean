/- The contract of journal.Open: of nil; of a new disk; of one that holds a journal. Condition: fewer than 2^38 acts and turns. (Merged of 5 texts.) -/
import Derived.Test.YtahfkcfbmklfpaaLists
import Derived.Test.YtahfkcfbmklfpaaOwn
import Derived.Lib.AppendZerosOnto
import Derived.Lib.Walk
import Derived.Test.YtahfkcfbmklfpaaJFrame
import Derived.Test.YtahfkcfbmklfpaaHeld
import Derived.BigQuiet
import Derived.Test.YtahfkcfbmklfpaaHJTell
import Derived.Deep.DeepCutAuto
/- The contracts of slices.Grow of nothing, and of slices.Concat. Condition: no more than 2^40 bytes together. -/
namespace Go.Proofs.Ytahfkcfbmklfpaa
open Go.RowKit Go.Deep

set_option maxHeartbeats 1000000 in
set_option maxRecDepth 100000 in
theorem grow_any (n : Nat) (hn : n ≤ 1099511627776) (w : World) :
    Calls Try.prog 65 #[.slice none 0 0, .int .i64 (n : Int)] w fun e w' => ∃ v, e = .returned v ∧ w'.ownsRow w.heap.size 5 1 v 0 [] ∧ Below w.heap.size w w' := by
  obtain ⟨i0, hi0, hz0, hz1, hz2⟩ := info_parts u8_info
  rcases Nat.eq_zero_or_pos n with h0 | h0
  · subst h0
    go_enter Try.func65, Try.ntmps65
    go_wp2
    go_ret
    exact ⟨_, rfl, World.ownsRow_nil _ _ _ _, Below.refl _ _⟩
  · have hrz : ∀ ty, (Builtin.append_ #[31, 3] ty #[.slice none 0 0, .int .i64 (n : Int)]).run Try.prog w =
        .ok (.slice (some ⟨w.heap.size, 0, none⟩) n (grownCap w n 0 5)) (w.drew.alloc (.cells (#[] ++ Builtin.zeroCells #[.int .u8 0] n ++ Builtin.zeroCells #[.int .u8 0] (grownCap w n 0 5 - n)) 5)) := fun ty => by
      have h := Lib.run_append_grow_zeros (P := Try.prog) w 31 3 ty 5 i0 (.int .u8 0) .i64 .i64 Try.underlying31 Try.underlying3 hi0 hz0 none 0 0 [] (by rw [hz1]; exact run_firstCells_none w.drew 1 0 0 0) n h0 (by omega) (by omega) (by omega) (by rw [hz2]; omega)
        (by rw [hz2]; exact growslice_fits (by omega) (by omega))
      rw [Nat.zero_add] at h
      exact h
    have hGn : n ≤ grownCap w n 0 5 := grownCap_ge w _ _ _
    have hG63 := grownCap_le_maxLen w n 0 5 (by simp only [maxLen]; omega)
    obtain ⟨G, HG⟩ : ∃ G, Hid (grownCap w n 0 5 = G) := ⟨_, Lib.hid rfl⟩
    rw [HG.out] at hrz hGn hG63
    simp only [maxLen] at hG63
    go_enter Try.func65, Try.ntmps65
    go_wp2_with (at_builtin; refine Lib.wpList_append_run _ rfl _ _ _ _ rfl _ _ rfl rfl _ _ (hrz _) ?_)
    go_ret
    refine ⟨_, rfl, ⟨rfl, .inr ⟨w.heap.size, G, _, by congr 2, Nat.le_refl _, heap_alloc_new _ _, by omega, by simp only [maxLen]; omega, ?_, rfl⟩⟩, ((Below.refl w.heap.size w).drew).alloc (Nat.le_refl _) _⟩
    simp [Builtin.zeroCells]
    omega

theorem flat_le {L : List (Option Addr × Nat × List Nat)} (k : Nat) : (flat (L.take k)).length ≤ (flat L).length := by
  have : flat L = flat (L.take k) ++ flat (L.drop k) := by
    rw [flat, flat, flat, ← List.flatMap_append, List.take_append_drop]
  rw [this, List.length_append]
  omega
set_option maxHeartbeats 2000000 in
set_option maxRecDepth 100000 in
theorem concat_row (b off cap : Nat) (L : List (Option Addr × Nat × List Nat)) (hl : L.length ≤ 1099511627776) (hf : (flat L).length ≤ 1099511627776) (w : World) (hc : RowsAt w (some ⟨b, off, none⟩) L) :
    Calls Try.prog 61 #[.slice (some ⟨b, off, none⟩) L.length cap] w fun e w' => ∃ v, e = .returned v ∧ w'.ownsRow w.heap.size 5 1 v (flat L).length (u8s (flat L)) ∧ Below w.heap.size w w' := by
  have HC := Lib.hid hc; clear hc
  have GG := Lib.hid (grow_any (flat L).length hf w)
  have HK := Lib.hid (fun k => flat_le (L := L) k)
  obtain ⟨N, HN⟩ : ∃ N, Hid ((flat L).length = N) := ⟨_, rfl⟩
  rw [HN.out] at hf GG HK
  go_enter Try.func61, Try.ntmps61
  go_wp2
  go_loop [3, 5, 11] (fun s x i => ∃ k n : Nat, k ≤ L.length ∧ i = .int .i64 k ∧ s = .int .i64 n ∧ Hid ((flat (L.take k)).length = n) ∧ n ≤ N) (fun _ _ i => L.length - (intOf i).toNat)
  case atStart => exact ⟨0, 0, Nat.zero_le _, rfl, rfl, by show _ = _; rw [List.take_zero, flat_nil]; rfl, Nat.zero_le _⟩
  case round =>
    obtain ⟨k, n, hk, rfl, rfl, HE, hn⟩ := hrel
    by_cases hlt : k < L.length
    · have hcell := (HC.out.cell hlt).1
      have HX : Hid ((flat (L.take (k + 1))).length = n + L[k].2.2.length) := by
        show _ = _
        rw [flat_take _ _ hlt, List.length_append, HE.out]
      have HKK := HK.out (k + 1)
      rw [HX.out] at HKK
      obtain ⟨x, HXX⟩ : ∃ x, Hid (L[k] = x) := ⟨L[k], Lib.hid rfl⟩
      rw [HXX.out] at hcell HX HKK
      obtain ⟨A, c, l⟩ := x
      simp only at hcell HX HKK
      go_wp2
      go_round
      case rel => exact ⟨k + 1, n + l.length, by omega, by go_num, by go_num, HX, HKK⟩
      case measure => simp [intOf]; omega
    · obtain rfl : n = N := by
        have := HE.out
        rw [List.take_of_length_le (by omega), HN.out] at this
        exact this.symm
      go_wp2_with fail
      refine GG.out.mono ?_
      rintro e w1 ⟨v1, rfl, ho1, hb1⟩
      have HO1 := Lib.hid ho1; have HB1 := Lib.hid hb1; clear ho1 hb1
      go_wp2
      go_loopw [6, 8, 27] (fun v y i wr => ∃ k : Nat, k ≤ L.length ∧ i = .int .i64 k ∧ wr.ownsRow w.heap.size 5 1 v (flat (L.take k)).length (u8s (flat (L.take k))) ∧ Below w.heap.size w wr) (fun _ _ i _ => L.length - (intOf i).toNat)
      case atStart => exact ⟨0, Nat.zero_le _, rfl, by rw [List.take_zero, flat_nil]; exact HO1.out, HB1.out⟩
      case round =>
        obtain ⟨k, hk, rfl, ho, hb⟩ := hrel
        have HO := Lib.hid ho; have HB := Lib.hid hb; clear ho hb
        by_cases hlt : k < L.length
        · have hrow := HC.out.below HB.out
          have hcell := (hrow.cell hlt).1
          have HAT := Lib.hid (hrow.cell hlt).2
          have HFT := Lib.hid (flat_take L k hlt)
          have HKK := HK.out (k + 1)
          rw [HFT.out, List.length_append] at HKK
          have HW := HB.out.size
          obtain ⟨x, HXX⟩ : ∃ x, Hid (L[k] = x) := ⟨L[k], Lib.hid rfl⟩
          rw [HXX.out] at hcell HAT HFT HKK
          obtain ⟨A, c, l⟩ := x
          simp only at hcell HAT HFT HKK
          clear hrow
          go_wp2_with
           (at_builtin
            refine wpList_append_bytes rfl (.tmp 31) (.tmp 32) rfl w.heap.size _ _ _ rfl HO.out A l c rfl HAT.out (by omega) HW ?_
            intro v2 w2 hap
            have hb2 := hap.below HB.out HW (fun k hk => (HO.out.lt k hk).1)
            have HO2 := Lib.hid hap.1; have HB2 := Lib.hid hb2.1; clear hap hb2)
          go_roundw
          case rel =>
            refine ⟨k + 1, by omega, by go_num, ?_, HB2.out⟩
            rw [HFT.out, List.length_append]
            exact HO2.out
          case measure => simp [intOf]; omega
        · have HE2 : Hid (flat (L.take k) = flat L) := by show _ = _; rw [List.take_of_length_le (by omega)]
          go_wp2
          go_ret
          have := HO.out
          rw [HE2.out, HN.out] at this
          rw [HN.out] at *
          exact ⟨_, rfl, this, HB.out⟩
end Go.Proofs.Ytahfkcfbmklfpaa

/- The contract of journal.roll.first: the first frame, in new memory. Condition: a turn of no more than 2^40, a base of no more than 60000 bytes. -/
namespace Go.Proofs.Ytahfkcfbmklfpaa
open Go.RowKit Go.Deep

set_option maxHeartbeats 1000000 in
set_option maxRecDepth 100000 in
theorem first_any (t : Nat) (ht : t ≤ 1099511627776) (A : Option Addr) (l : List Nat) (c : Nat) (hl : l.length ≤ 60000) (hb : ∀ x ∈ l, x < 256) (RA : Option Addr) (rn rc : Nat) (re : Int) (w : World) (h : BytesAt w A l) :
    Calls Try.prog 53 #[.agg #[.int .i64 (t : Int), .slice A l.length c, .slice RA rn rc, .int .i64 re]] w fun e w' => ∃ v, e = .returned v ∧ w'.ownsRow w.heap.size 5 1 v (frm (nput t ++ l)).length (u8s (frm (nput t ++ l))) ∧ Below w.heap.size w w' := by
  have H := Lib.hid h; clear h
  have GP := Lib.hid (fun w => numPut_own t ht w)
  have HNL := Lib.hid (nput_length t)
  have HN6 := nsz_le t
  have HBB : Hid (∀ x ∈ nput t ++ l, x < 256) := fun x hx => (List.mem_append.1 hx).elim (nput_bytes _ x) (hb x)
  clear hb
  have HML : Hid ((nput t ++ l).length = (nput t).length + l.length) := List.length_append
  obtain ⟨M, HM⟩ : ∃ M, Hid (nput t ++ l = M) := ⟨_, Lib.hid rfl⟩
  rw [HM.out] at HBB HML ⊢
  go_enter Try.func53, Try.ntmps53
  go_wp2_with fail
  have HW0 : Hid (Below w.heap.size w (w.alloc (.cells #[.int .i64 (t : Int), .slice A l.length c, .slice RA rn rc, .int .i64 re] 57))) := (Below.refl _ _).alloc (Nat.le_refl _) _
  have HCE : Hid (∀ e : ExtK (keepBlocks [w.heap.size]) (w.alloc (.cells #[.int .i64 (t : Int), .slice A l.length c, .slice RA rn rc, .int .i64 re] 57)).drew, ∀ j v, (#[Value.int .i64 (t : Int), .slice A l.length c, .slice RA rn rc, .int .i64 re] : Array Value)[j]? = some v → e.val.cell? ⟨w.heap.size, j, none⟩ = some v) := fun e j v hj =>
    (cell_of_block (e.property.2 w.heap.size (by simp)) _).trans (by rw [show (w.alloc (.cells #[.int .i64 (t : Int), .slice A l.length c, .slice RA rn rc, .int .i64 re] 57)).drew.cell? ⟨w.heap.size, j, none⟩ = _ from cell_of_row _ _ _ _ _ _ (heap_alloc_new w _)]; exact hj)
  have e0 : ∀ e : ExtK (keepBlocks [w.heap.size]) (w.alloc (.cells #[.int .i64 (t : Int), .slice A l.length c, .slice RA rn rc, .int .i64 re] 57)).drew, e.val.cell? ⟨w.heap.size, 0, none⟩ = some (.int .i64 (t : Int)) := fun e => HCE.out e 0 _ rfl
  have e1 : ∀ e : ExtK (keepBlocks [w.heap.size]) (w.alloc (.cells #[.int .i64 (t : Int), .slice A l.length c, .slice RA rn rc, .int .i64 re] 57)).drew, e.val.cell? ⟨w.heap.size, 1, none⟩ = some (.slice A l.length c) := fun e => HCE.out e 1 _ rfl
  have hlt0 : w.heap.size < (w.alloc (.cells #[.int .i64 (t : Int), .slice A l.length c, .slice RA rn rc, .int .i64 re] 57)).heap.size := by simp
  clear HCE
  generalize w.alloc (.cells #[.int .i64 (t : Int), .slice A l.length c, .slice RA rn rc, .int .i64 re] 57) = w0 at *
  refine wp_region_held_lit (keepBlocks [w.heap.size]) [(0, true), (1, true), (3, true), (4, true), (2, false), (5, false), (6, false), (7, false), (8, true)] (by kernel_rfl) (by kernel_rfl) (fun _ _ d _ _ h => by cases d <;> exact h) ?_
  simp only [picked, List.map_cons, List.map_nil, List.getElem?_cons_succ, List.getElem?_cons_zero, Option.getD_some]
  repeat (refine wpH_quiet (by rfl) (fun K hK => ?_); go_big_quiet_op; refine hK _ ?_; clear hK K)
  clear e0 e1
  refine wpH_one (by rfl) (fun K hK => ?_)
  go_simp
  refine (GP.out w0.drew).mono ?_
  rintro e w1 ⟨v1, rfl, ho1, hb1⟩
  have HB1 : Hid (Below w.heap.size w w1) := (HW0.out.drew).trans (hb1.mono HW0.out.size)
  have HO1 := Lib.hid ho1
  refine hK _ _ (keep_one hb1.size (hb1.block _ hlt0)) ?_
  have hlt1 : w.heap.size < w1.heap.size := Nat.lt_of_lt_of_le hlt0 hb1.size
  clear hK K hb1 ho1 hlt0
  obtain ⟨A1, c1, rfl⟩ := own_slice HO1.out
  have HA1 : Hid (BytesAt w1 A1 (nput t)) := BytesAt.of_own HO1.out rfl
  refine wpH_one (by rfl) (fun K hK => ?_)
  go_simp
  have HA : Hid (BytesAt w1 A l) := H.out.below HB1.out
  have hR := rows_two (c := c1) (d := c) HA1.out HA.out 31
  have HB2 : Hid (Below w.heap.size w (w1.alloc (.cells #[.slice A1 (nput t).length c1, .slice A l.length c] 31))) := HB1.out.alloc HB1.out.size _
  have hkk : (keepBlocks [w.heap.size]).r w1 (w1.alloc (.cells #[.slice A1 (nput t).length c1, .slice A l.length c] 31)) := keep_one (by simp) (((Below.refl w1.heap.size w1).alloc (Nat.le_refl _) _).block _ hlt1)
  have hfl : (flat [(A1, c1, nput t), (A, c, l)]).length ≤ 1099511627776 := by rw [flat_two, List.length_append, HNL.out]; omega
  have GC := Lib.hid (concat_row w1.heap.size 0 2 [(A1, c1, nput t), (A, c, l)] (by simp) hfl _ hR)
  rw [flat_two, HM.out] at GC
  refine hK _ _ hkk ?_
  clear hK K hkk hR hfl
  have hlt2 : w.heap.size < (w1.alloc (.cells #[.slice A1 (nput t).length c1, .slice A l.length c] 31)).heap.size := by simp; omega
  generalize w1.alloc (.cells #[.slice A1 (nput t).length c1, .slice A l.length c] 31) = w2 at *
  refine wpH_one (by rfl) (fun K hK => ?_)
  go_simp
  refine GC.out.mono ?_
  rintro e w3 ⟨v3, rfl, ho3, hb3⟩
  have HB3 : Hid (Below w.heap.size w w3) := HB2.out.trans (hb3.mono HB2.out.size)
  have HO3 := Lib.hid ho3
  refine hK _ _ (keep_one hb3.size (hb3.block _ hlt2)) ?_
  have hlt3 : w.heap.size < w3.heap.size := Nat.lt_of_lt_of_le hlt2 hb3.size
  clear hK K hb3 ho3 hlt2
  obtain ⟨A3, c3, rfl⟩ := own_slice HO3.out
  have HA3 : Hid (BytesAt w3 A3 M) := BytesAt.of_own HO3.out rfl
  have GF := Lib.hid (frame_any A3 M c3 (by rw [HML.out, HNL.out]; omega) HBB.out w3 HA3.out)
  refine wpH_one (by rfl) (fun K hK => ?_)
  go_simp
  refine GF.out.mono ?_
  rintro e w4 ⟨v4, rfl, ho4, hb4⟩
  have HB4 : Hid (Below w.heap.size w w4) := HB3.out.trans (hb4.mono HB3.out.size)
  have HO4 := Lib.hid ho4
  have HS3 := Lib.hid HB3.out.size
  refine hK _ _ (keep_one hb4.size (hb4.block _ hlt3)) ?_
  clear hK K hb4 ho4
  repeat (refine wpH_quiet (by rfl) (fun K hK => ?_); go_big_quiet_op; refine hK _ ?_; clear hK K)
  refine wpH_nil ?_
  go_wp2
  go_ret
  exact ⟨_, rfl, own_base HO4.out HS3.out, HB4.out⟩
end Go.Proofs.Ytahfkcfbmklfpaa

/- The contract of begin: a new base in one half, the other half as it was; or no room, and nothing changed. Condition: fewer than 2^40 acts and turns. -/
namespace Go.Proofs.Ytahfkcfbmklfpaa
open Go.RowKit Go.Deep

theorem seg_get (B : List Nat) (f s j : Nat) : (seg B f s)[j]? = if j < 64 * s then B[64 * f + j]? else none := by
  rw [seg, List.getElem?_take]
  split
  · rw [List.getElem?_drop]
  · rfl
theorem seg_in {B X : List Nat} {q s a : Nat} (hB : 64 * (q + s) ≤ B.length) (ha : a + X.length ≤ 64 * s) : seg (patch B (64 * q + a) X) q s = patch (seg B q s) a X := by
  have hl := seg_length hB
  refine List.ext_getElem? fun j => ?_
  rw [seg_get, patch_get (by omega), patch_get (by omega), seg_get]
  by_cases h1 : j < 64 * s
  · rw [if_pos h1]
    by_cases h2 : a ≤ j ∧ j < a + X.length
    · rw [if_pos (by omega), if_pos h2]
      congr 1
      omega
    · rw [if_neg (by omega), if_neg h2, if_pos h1]
  · rw [if_neg h1, if_neg (by omega), if_neg h1]
theorem seg_out {B X : List Nat} {p q s : Nat} (hp : p + X.length ≤ B.length) (_h : 64 * (q + s) ≤ p ∨ p + X.length ≤ 64 * q) : seg (patch B p X) q s = seg B q s := by
  refine List.ext_getElem? fun j => ?_
  rw [seg_get, seg_get]
  split
  · rw [patch_get hp, if_neg (by omega)]
  · rfl
theorem patch_all {B X : List Nat} (h : X.length = B.length) : patch B 0 X = X := by
  rw [patch, List.take_zero, List.nil_append, Nat.zero_add, List.drop_eq_nil_of_le (by omega), List.append_nil]
theorem patch_zeros {n : Nat} {X : List Nat} (_h : X.length ≤ n) : patch (zeros n) 0 X = padN n X := by
  rw [patch, List.take_zero, List.nil_append, Nat.zero_add, zeros, List.drop_replicate, padN]
/-- One half is laid anew. -/
theorem Halves.begin {n : Nat} {B : List Nat} {o : Nat → Option RollV} (h : Halves n B o) (hB : B.length = 64 * n) {i : Nat} (hi : i < 2) {r : RollV} (hr : r.Good) (hf : r.recs = []) (hl : r.first.length ≤ 64 * (n / 2)) :
    Halves n (patch (patch B (64 * (i * (n / 2)) + 0) (zeros (64 * (n / 2) - 0))) (64 * (i * (n / 2)) + 0) r.first) (fun j => if j = i then some r else o j) := by
  have hb : r.bytes = r.first := by show r.first ++ r.recs.flatMap frm = _; rw [hf]; simp
  obtain ⟨h8, h2⟩ := h
  obtain ⟨s, hs⟩ : ∃ s, n / 2 = s := ⟨_, rfl⟩
  rw [hs] at h2 hl ⊢
  have hsn : 2 * s ≤ n := by omega
  have hz : (zeros (64 * s)).length = 64 * s := zeros_length _
  rw [Nat.sub_zero]
  have key : ∀ i j : Nat, i < 2 → j < 2 → i ≠ j → i * s + s ≤ n ∧ (64 * (j * s + s) ≤ 64 * (i * s) ∨ 64 * (i * s) + 64 * s ≤ 64 * (j * s)) := by
    intro i j h1 h2 h3
    rcases (show i = 0 ∨ i = 1 by omega) with rfl | rfl <;> rcases (show j = 0 ∨ j = 1 by omega) with rfl | rfl <;> omega
  have hin : i * s + s ≤ n := by rcases (show i = 0 ∨ i = 1 by omega) with rfl | rfl <;> omega
  have hpl : (patch B (64 * (i * s) + 0) (zeros (64 * s))).length = 64 * n := by rw [patch_length (by rw [hz]; omega), hB]
  refine ⟨h8, fun j hj => ?_⟩
  show seg _ (j * (n / 2)) (n / 2) = halfB (64 * (n / 2)) (if j = i then some r else o j) ∧ FitsIn (64 * (n / 2)) (if j = i then some r else o j)
  by_cases e : j = i
  · subst e
    rw [if_pos rfl, hs]
    refine ⟨?_, hr, by rw [hb]; exact hl⟩
    rw [seg_in (by rw [hpl]; omega) (by omega), seg_in (by rw [hB]; omega) (by omega), patch_all (B := seg B (j * s) s) (X := zeros (64 * s)) (by rw [hz, seg_length (by omega)]), patch_zeros hl]
    show _ = padN _ r.bytes
    rw [hb]
  · rw [if_neg e, hs]
    obtain ⟨h3, h4⟩ := key i j hi hj (fun h => e h.symm)
    rw [seg_out (by rw [hpl]; omega) (by omega), seg_out (by rw [hz, hB]; omega) (by rw [hz]; omega)]
    exact h2 j hj
/-- A roll's record that was just laid, ahead of its end. -/
def RollNew (W : World) (t : Nat) (b : List Nat) (s : Value) (w : World) : Prop :=
  ∃ gr nA nc, s = .pointer (some ⟨gr, 0, none⟩) ∧ w.rowIs gr 57 4 (rollCells t nA b.length nc none 0 0 0) ∧ BytesAt w nA b ∧ (∀ a, nA = some a → W.heap.size ≤ a.block ∧ a.block ≠ gr ∧ a.block < w.heap.size) ∧ W.heap.size ≤ gr ∧ Below W.heap.size W w
def jbS0 : Sched Nat := .one 8 (.one 10 .done)
def jbS : Sched Nat := .quiet 0 (.quiet 1 (.quiet 2 (.quiet 3 (.quiet 4 (.quiet 5 (.quiet 6 (.two 7 (.two 8 (.one 9 (.one 10 .done)) 9 jbS0) 9 (.one 7 jbS0))))))))

set_option maxHeartbeats 4000000 in
set_option maxRecDepth 100000 in
theorem begin_any {O Q : Nat → Prop} {gj g inn t en n k : Nat} {B : List Nat} {base : List Nat} {recs : List (List Nat)} {o : Nat → Option RollV} {w : World} (hd : JDisk O g n B 0 k w) (hm : JMem Q gj g inn t base recs en w) (hap : ∀ x, O x → ¬Q x) (hH : Halves n B o) (i : Nat) (hi : i < 2) (ht : t < 1099511627776) (hk : k ≤ 549755813888)
    (A : Option Addr) (b : List Nat) (c : Nat) (hb : b.length ≤ 60000) (hbb : ∀ x ∈ b, x < 256) (hat : BytesAt w A b) (z : Int) (hz : z = (i : Int)) :
    Calls Try.prog 42 #[.pointer (some ⟨gj, 0, none⟩), .int .i64 z, .slice A b.length c] w fun e w' =>
      (64 * (n / 2) < (⟨t + 1, b, []⟩ : RollV).first.length ∧ e = .returned (.int .i64 4) ∧ Below w.heap.size w w') ∨
      ((⟨t + 1, b, []⟩ : RollV).first.length ≤ 64 * (n / 2) ∧ e = .returned (.int .i64 0) ∧ ∃ (O' Q' : Nat → Prop) (B' : List Nat), (∀ x, O' x → O x ∨ w.heap.size ≤ x) ∧ (∀ x, Q' x → Q x ∨ w.heap.size ≤ x) ∧ (∀ x, O' x → ¬Q' x) ∧
        JDisk O' g n B' 0 (k + 200000) w' ∧ JMem Q' gj g i (t + 1) b [] (⟨t + 1, b, []⟩ : RollV).first.length w' ∧ Halves n B' (fun j => if j = i then some ⟨t + 1, b, []⟩ else o j) ∧ Off (fun x => O x ∨ Q x) w w') := by
  obtain ⟨hB, _, hn2⟩ := hd.size
  subst hz
  have HD := Lib.hid hd; have HM := Lib.hid hm; have HAP := Lib.hid hap; have HH := Lib.hid hH; have HAT := Lib.hid hat
  have GH := Lib.hid (half_any hd hm i hi (i : Int) rfl)
  obtain ⟨q, HQ⟩ : ∃ q, Hid (i * (n / 2) = q) := ⟨_, rfl⟩
  obtain ⟨s, HS⟩ : ∃ s, Hid (n / 2 = s) := ⟨_, rfl⟩
  have hqs : q + s ≤ n := by
    have h1 := HQ.out
    have h2 := HS.out
    rcases (show i = 0 ∨ i = 1 by omega) with rfl | rfl <;> omega
  rw [HQ.out, HS.out] at GH
  rw [HS.out]
  have hs1 : s ≤ 65536 := by omega
  have GS := Lib.hid (fun w => hsize_any g q s hs1 w)
  have GF := Lib.hid (fun (A : Option Addr) (c : Nat) (w : World) (h : BytesAt w A b) => first_any (t + 1) (by omega) A b c hb hbb none 0 0 0 w h)
  obtain ⟨F, HF⟩ : ∃ F, Hid (frm (nput (t + 1) ++ b) = F) := ⟨_, Lib.hid rfl⟩
  have HFF : Hid ((⟨t + 1, b, []⟩ : RollV).first = F) := HF.out
  have HFB : Hid (∀ x ∈ F, x < 256) := by
    show ∀ x ∈ F, x < 256
    rw [← HF.out]
    exact frm_bytes fun x hx => (List.mem_append.1 hx).elim (nput_bytes _ x) (hbb x)
  have hFl : F.length ≤ 100000 := by
    rw [← HF.out, frm_length, List.length_append, nput_length]
    have := flen_bounds (nsz (t + 1) + b.length)
    have := nsz_le (t + 1)
    omega
  rw [HF.out] at GF
  rw [HFF.out]
  have et : ((t + 1 : Nat) : Int) = (t : Int) + 1 := by omega
  rw [et] at GF
  have ht1 : (t : Int) + 1 ≤ 1099511627776 := by omega
  have hil : (i : Int) ≤ 1 := by omega
  have HBBB := Lib.hid hbb
  clear hd hm hap hH hat et hbb
  go_enter Try.func42, Try.ntmps42
  go_wp2_with fail
  refine GH.out.mono ?_
  rintro e w1 ⟨rfl, hb1⟩
  have HB1 : Hid (Below w.heap.size w w1) := hb1
  clear hb1
  go_upto_region 2 with fail
  have HX2 := Lib.hid (BoxAt.new w1 g q s 62)
  have HB2 : Hid (Below w.heap.size w (w1.alloc (.cells #[.pointer (some ⟨g, 0, none⟩), .int .i64 (q : Int), .int .i64 (s : Int)] 62))) := HB1.out.alloc HB1.out.size _
  obtain ⟨gh, HGH⟩ : ∃ gh, Hid (w1.heap.size = gh) := ⟨_, rfl⟩
  have hgh : w.heap.size ≤ gh := by rw [← HGH.out]; exact HB1.out.size
  rw [HGH.out] at HX2 ⊢
  generalize w1.alloc (.cells #[.pointer (some ⟨g, 0, none⟩), .int .i64 (q : Int), .int .i64 (s : Int)] 62) = w2 at *
  have HM2 := Lib.hid (HM.out.below HB2.out)
  go_cut [8] (fun s8 wc => RollNew w2 (t + 1) b s8 wc)
  case first =>
    obtain ⟨_, _, bA, bc, rA, rc, hr, _⟩ := HM2.out
    have e2 : ∀ e : ExtK (keepBlocks [gj]) w2.drew, e.val.cell? ⟨gj, 2, none⟩ = some (.int .i64 (t : Int)) := fun e => (cell_of_block (e.property.2 gj (by simp)) _).trans (hr.cell (i := 2) (by omega))
    have HGJ := Lib.hid hr.lt
    clear hr
    have HA2 : Hid (BytesAt w2 A b) := HAT.out.below HB2.out
    refine Sched.wp_region_branch (keepBlocks [gj]) jbS (by kernel_rfl) (by kernel_rfl) (fun _ _ d _ _ h => by cases d <;> exact h) ?_
    simp only [jbS, jbS0, Sched.picked, List.getElem?_cons_succ, List.getElem?_cons_zero, Option.getD_some]
    repeat (refine Sched.walkK_quiet (by rfl) (fun K hK => ?_); go_big_quiet_op; refine hK _ ?_; clear hK K)
    clear e2
    have HGJX : gj < w2.drew.heap.size := HGJ.out
    have GC := Lib.hid (fun w (h : BytesAt w A b) => bclone_any A b c (by omega) w h)
    refine Sched.walkK_two ?_ ?_
    · refine Sched.walkK_one (by rfl) (fun K hK => ?_)
      go_simp
      refine (GC.out w2.drew (HA2.out)).mono ?_
      rintro e w3 ⟨⟨v3, rfl, ho3⟩, hb3⟩
      refine hK _ _ (keep_one hb3.size (hb3.block _ HGJX)) ?_
      clear hK K
      obtain ⟨nA, nc, rfl⟩ := own_slice ho3
      refine Sched.walkK_two ?_ ?_
      · have HBZ : Hid (Below w2.heap.size w2 (w3.alloc (.cells #[.int .i64 0, .slice none 0 0, .slice none 0 0, .int .i64 0] 57))) := ((Below.refl w2.heap.size w2).drew.trans hb3).alloc hb3.size _
        have HR0 : Hid ((w3.alloc (.cells #[.int .i64 0, .slice none 0 0, .slice none 0 0, .int .i64 0] 57)).rowIs w3.heap.size 57 4 (rollCells 0 none 0 0 none 0 0 0)) := World.rowIs_alloc w3 #[.int .i64 0, .slice none 0 0, .slice none 0 0, .int .i64 0] 57 _ fun j hj => by
          rcases four (by simpa using hj) with rfl | rfl | rfl | rfl <;> rfl
        have HN : Hid (BytesAt (w3.alloc (.cells #[.int .i64 0, .slice none 0 0, .slice none 0 0, .int .i64 0] 57)) nA b ∧ ∀ a, nA = some a → w2.heap.size ≤ a.block ∧ a.block ≠ w3.heap.size ∧ a.block < (w3.alloc (.cells #[.int .i64 0, .slice none 0 0, .slice none 0 0, .int .i64 0] 57)).heap.size) := ⟨(BytesAt.of_own ho3 rfl).alloc _, fun a ha => by
          subst ha
          have h := ho3.lt a.block rfl
          refine ⟨h.1, by omega, ?_⟩
          simp
          omega⟩
        have hgj3 : gj < w3.heap.size := Nat.lt_of_lt_of_le HGJX hb3.size
        have HGR : w2.heap.size ≤ w3.heap.size := hb3.size
        have hgjz : gj < (w3.alloc (.cells #[.int .i64 0, .slice none 0 0, .slice none 0 0, .int .i64 0] 57)).heap.size := by simp; omega
        refine Sched.walkK_one (by rfl) (fun K hK => ?_)
        go_simp
        refine hK _ _ ((keepBlocks [gj]).refl _) ?_
        clear hK K
        refine Sched.walkK_one (by rfl) (fun K hK => ?_)
        go_simp
        refine hK _ _ (keep_one (by simp) (((Below.refl w3.heap.size w3).alloc (Nat.le_refl _) _).block _ hgj3)) ?_
        clear hK K
        generalize w3.alloc (.cells #[.int .i64 0, .slice none 0 0, .slice none 0 0, .int .i64 0] 57) = wz at *
        have q0 := HR0.out.frozen 0
        have y0 : wz.cell? ⟨w3.heap.size, 0, none⟩ = some (.int .i64 0) := HR0.out.cell (i := 0) (by omega)
        have q1 := (HR0.out.set 0 (.int .i64 ((t : Int) + 1))).frozen 1
        have y1 : (wz.setCell ⟨w3.heap.size, 0, none⟩ (.int .i64 ((t : Int) + 1))).cell? ⟨w3.heap.size, 1, none⟩ = some (.slice none 0 0) := (HR0.out.set 0 (.int .i64 ((t : Int) + 1))).cell (i := 1) (by omega)
        have q2 := ((HR0.out.set 0 (.int .i64 ((t : Int) + 1))).set 1 (.slice nA b.length nc)).frozen 2
        have y2 : ((wz.setCell ⟨w3.heap.size, 0, none⟩ (.int .i64 ((t : Int) + 1))).setCell ⟨w3.heap.size, 1, none⟩ (.slice nA b.length nc)).cell? ⟨w3.heap.size, 2, none⟩ = some (.slice none 0 0) := ((HR0.out.set 0 (.int .i64 ((t : Int) + 1))).set 1 (.slice nA b.length nc)).cell (i := 2) (by omega)
        have q3 := (((HR0.out.set 0 (.int .i64 ((t : Int) + 1))).set 1 (.slice nA b.length nc)).set 2 (.slice none 0 0)).frozen 3
        have y3 : (((wz.setCell ⟨w3.heap.size, 0, none⟩ (.int .i64 ((t : Int) + 1))).setCell ⟨w3.heap.size, 1, none⟩ (.slice nA b.length nc)).setCell ⟨w3.heap.size, 2, none⟩ (.slice none 0 0)).cell? ⟨w3.heap.size, 3, none⟩ = some (.int .i64 0) := (((HR0.out.set 0 (.int .i64 ((t : Int) + 1))).set 1 (.slice nA b.length nc)).set 2 (.slice none 0 0)).cell (i := 3) (by omega)
        refine Sched.walkK_one (by rfl) (fun K hK => ?_)
        go_simp
        have hon : Only w3.heap.size wz ((((wz.setCell ⟨w3.heap.size, 0, none⟩ (.int .i64 ((t : Int) + 1))).setCell ⟨w3.heap.size, 1, none⟩ (.slice nA b.length nc)).setCell ⟨w3.heap.size, 2, none⟩ (.slice none 0 0)).setCell ⟨w3.heap.size, 3, none⟩ (.int .i64 0)) := ((((Only.refl _ _).set 0 _).set 1 _).set 2 _).set 3 _
        have hrw := (((HR0.out.set 0 (.int .i64 ((t : Int) + 1))).set 1 (.slice nA b.length nc)).set 2 (.slice none 0 0)).set 3 (.int .i64 0)
        refine hK _ _ (keep_one hon.size (hon.block _ (hgjz) (by omega))) ?_
        clear hK K q0 q1 q2 q3 y0 y1 y2 y3
        refine Sched.walkK_done ?_
        go_wp2_with fail
        go_meet
        refine ⟨w3.heap.size, nA, nc, rfl, hrw.congr fun j hj => ?_, bytes_kept HN.out.1 hon.size (fun a ha hlt => hon.block _ hlt (HN.out.2 a ha).2.1), fun a ha => ⟨(HN.out.2 a ha).1, (HN.out.2 a ha).2.1, Nat.lt_of_lt_of_le (HN.out.2 a ha).2.2 hon.size⟩, HGR, hon.below HBZ.out HGR⟩
        rcases four hj with rfl | rfl | rfl | rfl <;> rfl
      · have HBZ : Hid (Below w2.heap.size w2 (w3.alloc (.cells #[.int .i64 0, .slice none 0 0, .slice none 0 0, .int .i64 0] 57))) := ((Below.refl w2.heap.size w2).drew.trans hb3).alloc hb3.size _
        have HR0 : Hid ((w3.alloc (.cells #[.int .i64 0, .slice none 0 0, .slice none 0 0, .int .i64 0] 57)).rowIs w3.heap.size 57 4 (rollCells 0 none 0 0 none 0 0 0)) := World.rowIs_alloc w3 #[.int .i64 0, .slice none 0 0, .slice none 0 0, .int .i64 0] 57 _ fun j hj => by
          rcases four (by simpa using hj) with rfl | rfl | rfl | rfl <;> rfl
        have HN : Hid (BytesAt (w3.alloc (.cells #[.int .i64 0, .slice none 0 0, .slice none 0 0, .int .i64 0] 57)) nA b ∧ ∀ a, nA = some a → w2.heap.size ≤ a.block ∧ a.block ≠ w3.heap.size ∧ a.block < (w3.alloc (.cells #[.int .i64 0, .slice none 0 0, .slice none 0 0, .int .i64 0] 57)).heap.size) := ⟨(BytesAt.of_own ho3 rfl).alloc _, fun a ha => by
          subst ha
          have h := ho3.lt a.block rfl
          refine ⟨h.1, by omega, ?_⟩
          simp
          omega⟩
        have hgj3 : gj < w3.heap.size := Nat.lt_of_lt_of_le HGJX hb3.size
        have HGR : w2.heap.size ≤ w3.heap.size := hb3.size
        have hgjz : gj < (w3.alloc (.cells #[.int .i64 0, .slice none 0 0, .slice none 0 0, .int .i64 0] 57)).heap.size := by simp; omega
        refine Sched.walkK_one (by rfl) (fun K hK => ?_)
        go_simp
        refine hK _ _ (keep_one (by simp) (((Below.refl w3.heap.size w3).alloc (Nat.le_refl _) _).block _ hgj3)) ?_
        clear hK K
        refine Sched.walkK_one (by rfl) (fun K hK => ?_)
        go_simp
        refine hK _ _ ((keepBlocks [gj]).refl _) ?_
        clear hK K
        generalize w3.alloc (.cells #[.int .i64 0, .slice none 0 0, .slice none 0 0, .int .i64 0] 57) = wz at *
        have q0 := HR0.out.frozen 0
        have y0 : wz.cell? ⟨w3.heap.size, 0, none⟩ = some (.int .i64 0) := HR0.out.cell (i := 0) (by omega)
        have q1 := (HR0.out.set 0 (.int .i64 ((t : Int) + 1))).frozen 1
        have y1 : (wz.setCell ⟨w3.heap.size, 0, none⟩ (.int .i64 ((t : Int) + 1))).cell? ⟨w3.heap.size, 1, none⟩ = some (.slice none 0 0) := (HR0.out.set 0 (.int .i64 ((t : Int) + 1))).cell (i := 1) (by omega)
        have q2 := ((HR0.out.set 0 (.int .i64 ((t : Int) + 1))).set 1 (.slice nA b.length nc)).frozen 2
        have y2 : ((wz.setCell ⟨w3.heap.size, 0, none⟩ (.int .i64 ((t : Int) + 1))).setCell ⟨w3.heap.size, 1, none⟩ (.slice nA b.length nc)).cell? ⟨w3.heap.size, 2, none⟩ = some (.slice none 0 0) := ((HR0.out.set 0 (.int .i64 ((t : Int) + 1))).set 1 (.slice nA b.length nc)).cell (i := 2) (by omega)
        have q3 := (((HR0.out.set 0 (.int .i64 ((t : Int) + 1))).set 1 (.slice nA b.length nc)).set 2 (.slice none 0 0)).frozen 3
        have y3 : (((wz.setCell ⟨w3.heap.size, 0, none⟩ (.int .i64 ((t : Int) + 1))).setCell ⟨w3.heap.size, 1, none⟩ (.slice nA b.length nc)).setCell ⟨w3.heap.size, 2, none⟩ (.slice none 0 0)).cell? ⟨w3.heap.size, 3, none⟩ = some (.int .i64 0) := (((HR0.out.set 0 (.int .i64 ((t : Int) + 1))).set 1 (.slice nA b.length nc)).set 2 (.slice none 0 0)).cell (i := 3) (by omega)
        refine Sched.walkK_one (by rfl) (fun K hK => ?_)
        go_simp
        have hon : Only w3.heap.size wz ((((wz.setCell ⟨w3.heap.size, 0, none⟩ (.int .i64 ((t : Int) + 1))).setCell ⟨w3.heap.size, 1, none⟩ (.slice nA b.length nc)).setCell ⟨w3.heap.size, 2, none⟩ (.slice none 0 0)).setCell ⟨w3.heap.size, 3, none⟩ (.int .i64 0)) := ((((Only.refl _ _).set 0 _).set 1 _).set 2 _).set 3 _
        have hrw := (((HR0.out.set 0 (.int .i64 ((t : Int) + 1))).set 1 (.slice nA b.length nc)).set 2 (.slice none 0 0)).set 3 (.int .i64 0)
        refine hK _ _ (keep_one hon.size (hon.block _ (hgjz) (by omega))) ?_
        clear hK K q0 q1 q2 q3 y0 y1 y2 y3
        refine Sched.walkK_done ?_
        go_wp2_with fail
        go_meet
        refine ⟨w3.heap.size, nA, nc, rfl, hrw.congr fun j hj => ?_, bytes_kept HN.out.1 hon.size (fun a ha hlt => hon.block _ hlt (HN.out.2 a ha).2.1), fun a ha => ⟨(HN.out.2 a ha).1, (HN.out.2 a ha).2.1, Nat.lt_of_lt_of_le (HN.out.2 a ha).2.2 hon.size⟩, HGR, hon.below HBZ.out HGR⟩
        rcases four hj with rfl | rfl | rfl | rfl <;> rfl
    · have hgjz0 : gj < (w2.alloc (.cells #[.int .i64 0, .slice none 0 0, .slice none 0 0, .int .i64 0] 57)).drew.heap.size := by have := HGJ.out; simp; omega
      have hba : Below w2.heap.size w2 (w2.alloc (.cells #[.int .i64 0, .slice none 0 0, .slice none 0 0, .int .i64 0] 57)).drew := ((Below.refl _ _).alloc (Nat.le_refl _) _).drew
      have hra : (w2.alloc (.cells #[.int .i64 0, .slice none 0 0, .slice none 0 0, .int .i64 0] 57)).drew.rowIs w2.heap.size 57 4 (rollCells 0 none 0 0 none 0 0 0) := World.rowIs.drew (World.rowIs_alloc w2 #[.int .i64 0, .slice none 0 0, .slice none 0 0, .int .i64 0] 57 _ fun j hj => by
        rcases four (by simpa using hj) with rfl | rfl | rfl | rfl <;> rfl)
      refine Sched.walkK_one (by rfl) (fun K hK => ?_)
      go_simp
      refine hK _ _ (keep_one hba.size (hba.block _ HGJ.out)) ?_
      clear hK K
      have HGJX := hgjz0
      have hgj2 := HGJ.out
      generalize (w2.alloc (.cells #[.int .i64 0, .slice none 0 0, .slice none 0 0, .int .i64 0] 57)).drew = wy at *
      refine Sched.walkK_one (by rfl) (fun K hK => ?_)
      go_simp
      refine (GC.out wy (HA2.out.below hba)).mono ?_
      rintro e w3 ⟨⟨v3, rfl, ho3⟩, hb3⟩
      refine hK _ _ (keep_one hb3.size (hb3.block _ HGJX)) ?_
      clear hK K
      obtain ⟨nA, nc, rfl⟩ := own_slice ho3
      have HBZ : Hid (Below w2.heap.size w2 w3) := hba.trans (hb3.mono hba.size)
      have HR0 : Hid (w3.rowIs w2.heap.size 57 4 (rollCells 0 none 0 0 none 0 0 0)) := hra.of_block (hb3.block _ hra.lt)
      have HN : Hid (BytesAt w3 nA b ∧ ∀ a, nA = some a → w2.heap.size ≤ a.block ∧ a.block ≠ w2.heap.size ∧ a.block < w3.heap.size) := ⟨BytesAt.of_own ho3 rfl, fun a ha => by
        subst ha
        have h := ho3.lt a.block rfl
        have h2 := hra.lt
        omega⟩
      have hgjz : gj < w3.heap.size := Nat.lt_of_lt_of_le HGJX hb3.size
      have HGR : w2.heap.size ≤ w2.heap.size := Nat.le_refl _
      refine Sched.walkK_one (by rfl) (fun K hK => ?_)
      go_simp
      refine hK _ _ ((keepBlocks [gj]).refl _) ?_
      clear hK K
      generalize w3 = wz at *
      have q0 := HR0.out.frozen 0
      have y0 : wz.cell? ⟨w2.heap.size, 0, none⟩ = some (.int .i64 0) := HR0.out.cell (i := 0) (by omega)
      have q1 := (HR0.out.set 0 (.int .i64 ((t : Int) + 1))).frozen 1
      have y1 : (wz.setCell ⟨w2.heap.size, 0, none⟩ (.int .i64 ((t : Int) + 1))).cell? ⟨w2.heap.size, 1, none⟩ = some (.slice none 0 0) := (HR0.out.set 0 (.int .i64 ((t : Int) + 1))).cell (i := 1) (by omega)
      have q2 := ((HR0.out.set 0 (.int .i64 ((t : Int) + 1))).set 1 (.slice nA b.length nc)).frozen 2
      have y2 : ((wz.setCell ⟨w2.heap.size, 0, none⟩ (.int .i64 ((t : Int) + 1))).setCell ⟨w2.heap.size, 1, none⟩ (.slice nA b.length nc)).cell? ⟨w2.heap.size, 2, none⟩ = some (.slice none 0 0) := ((HR0.out.set 0 (.int .i64 ((t : Int) + 1))).set 1 (.slice nA b.length nc)).cell (i := 2) (by omega)
      have q3 := (((HR0.out.set 0 (.int .i64 ((t : Int) + 1))).set 1 (.slice nA b.length nc)).set 2 (.slice none 0 0)).frozen 3
      have y3 : (((wz.setCell ⟨w2.heap.size, 0, none⟩ (.int .i64 ((t : Int) + 1))).setCell ⟨w2.heap.size, 1, none⟩ (.slice nA b.length nc)).setCell ⟨w2.heap.size, 2, none⟩ (.slice none 0 0)).cell? ⟨w2.heap.size, 3, none⟩ = some (.int .i64 0) := (((HR0.out.set 0 (.int .i64 ((t : Int) + 1))).set 1 (.slice nA b.length nc)).set 2 (.slice none 0 0)).cell (i := 3) (by omega)
      refine Sched.walkK_one (by rfl) (fun K hK => ?_)
      go_simp
      have hon : Only w2.heap.size wz ((((wz.setCell ⟨w2.heap.size, 0, none⟩ (.int .i64 ((t : Int) + 1))).setCell ⟨w2.heap.size, 1, none⟩ (.slice nA b.length nc)).setCell ⟨w2.heap.size, 2, none⟩ (.slice none 0 0)).setCell ⟨w2.heap.size, 3, none⟩ (.int .i64 0)) := ((((Only.refl _ _).set 0 _).set 1 _).set 2 _).set 3 _
      have hrw := (((HR0.out.set 0 (.int .i64 ((t : Int) + 1))).set 1 (.slice nA b.length nc)).set 2 (.slice none 0 0)).set 3 (.int .i64 0)
      refine hK _ _ (keep_one hon.size (hon.block _ (hgjz) (by omega))) ?_
      clear hK K q0 q1 q2 q3 y0 y1 y2 y3
      refine Sched.walkK_done ?_
      go_wp2_with fail
      go_meet
      refine ⟨w2.heap.size, nA, nc, rfl, hrw.congr fun j hj => ?_, bytes_kept HN.out.1 hon.size (fun a ha hlt => hon.block _ hlt (HN.out.2 a ha).2.1), fun a ha => ⟨(HN.out.2 a ha).1, (HN.out.2 a ha).2.1, Nat.lt_of_lt_of_le (HN.out.2 a ha).2.2 hon.size⟩, HGR, hon.below HBZ.out HGR⟩
      rcases four hj with rfl | rfl | rfl | rfl <;> rfl
  case rest =>
    obtain ⟨gr, nA, nc, rfl, hrw, hatn, hnn, hgr, hbc⟩ := hcut
    have HRW := Lib.hid hrw; have HATN := Lib.hid hatn; have HNN := Lib.hid hnn; have HGR := Lib.hid hgr; have HBC := Lib.hid hbc
    clear hrw hatn hnn hgr hbc
    have HKS : Hid (k + s ≤ 1099511627776 ∧ k + s + 1 + F.length ≤ 1099511627776 ∧ F.length ≤ 1000000 ∧ k + s + 1 + F.length + 1 ≤ k + 200000) := by show _ ∧ _; omega
    have HTT := Lib.hid ht
    have HBB := Lib.hid hb
    have k0 : wc.cell? ⟨gr, 0, none⟩ = some (.int .i64 ((t : Int) + 1)) := HRW.out.cell (i := 0) (by omega)
    have k1 : wc.cell? ⟨gr, 1, none⟩ = some (.slice nA b.length nc) := HRW.out.cell (i := 1) (by omega)
    have k2 : wc.cell? ⟨gr, 2, none⟩ = some (.slice none 0 0) := HRW.out.cell (i := 2) (by omega)
    have k3 : wc.cell? ⟨gr, 3, none⟩ = some (.int .i64 0) := HRW.out.cell (i := 3) (by omega)
    go_wp2_with fail
    refine (GF.out nA nc _ HATN.out).mono ?_
    rintro e w4 ⟨v4, rfl, ho4, hb4⟩
    clear k0 k1 k2 k3 hk ht ht1 hb hFl hil
    obtain ⟨A4, c4, rfl⟩ := own_slice ho4
    have HB4 : Hid (Below w2.heap.size w2 w4) := HBC.out.trans (hb4.mono HBC.out.size)
    have HO4 := Lib.hid ho4
    have HRW4 : Hid (w4.rowIs gr 57 4 (rollCells (t + 1) nA b.length nc none 0 0 0)) := HRW.out.of_block (hb4.block _ HRW.out.lt)
    have HATN4 : Hid (BytesAt w4 nA b) := HATN.out.below hb4
    have HS4 : Hid (wc.heap.size ≤ w4.heap.size) := hb4.size
    clear ho4 hb4
    have HX4 : Hid (BoxAt w4 gh g q s) := HX2.out.below HB4.out
    obtain ⟨j0, j1, j2, j3⟩ := HX4.out
    clear j0
    go_wp2_with fail
    refine (GS.out _).mono ?_
    rintro e w5 ⟨rfl, hb5⟩
    obtain ⟨C, HC⟩ : ∃ C, Hid (64 * s = C) := ⟨_, rfl⟩
    rw [HC.out]
    have HB5 : Hid (Below w4.heap.size w4 w5) := hb5
    have HB25 : Hid (Below w2.heap.size w2 w5) := HB4.out.trans (hb5.mono HB4.out.size)
    clear hb5 j1 j2 j3
    have HX5 : Hid (BoxAt w5 gh g q s) := HX4.out.below HB5.out
    have HSS := Lib.hid hs1
    clear hs1
    obtain ⟨fl, HFL⟩ : ∃ fl, Hid (F.length = fl) := ⟨_, rfl⟩
    rw [HFL.out]
    by_cases hfs : C < fl
    · go_wp2
      go_ret
      exact .inl ⟨by rw [HFL.out, HC.out]; exact hfs, rfl, HB2.out.trans (HB25.out.mono HB2.out.size)⟩
    · obtain ⟨j0, j1, j2, j3⟩ := HX5.out
      clear j0
      have HD5 := Lib.hid ((HD.out.below HB2.out).below HB25.out)
      have HOLT : Hid (∀ x, O x → x < w.heap.size) := HD.out.lt.2
      have GW := Lib.hid (hwipe_any HD5.out q s 0 hqs (Nat.zero_le _) HKS.out.1)
      go_wp2_with fail
      refine GW.out.mono ?_
      rintro e w6 ⟨rfl, O1, hO1, hd6, hof6⟩
      have HO1 := Lib.hid hO1; have HD6 := Lib.hid hd6; have HOF6 := Lib.hid hof6
      clear hO1 hd6 hof6 j1 j2 j3
      have hnO : ∀ x, w.heap.size ≤ x → ¬O x := fun x hx h => by have := HOLT.out x h; omega
      have HNO := Lib.hid hnO; clear hnO
      have HX6 : Hid (BoxAt w6 gh g q s) := HX5.out.off HOF6.out (HNO.out gh hgh)
      obtain ⟨j0, j1, j2, j3⟩ := HX6.out
      clear j0
      have hs25 := HB25.out.size
      have HA4 : Hid (BytesOff O1 w6 A4 F) := by
        have h5 : BytesOff O w5 A4 F := ⟨(BytesAt.of_own HO4.out rfl).below HB5.out, fun x hx => by
          subst hx
          have h := HO4.out.lt x.block rfl
          have h2 := HBC.out.size
          have h3 := HB2.out.size
          exact ⟨HNO.out _ (by omega), Nat.lt_of_lt_of_le h.2 HB5.out.size⟩⟩
        exact h5.off HOF6.out HO1.out
      have hcl4 : F.length ≤ c4 ∧ c4 ≤ maxLen := by
        rcases HO4.out.2 with ⟨e, h0⟩ | ⟨g', cap', cur, h', _, _, h1, h2, _⟩
        · injection e with _ _ e
          omega
        · injection h' with _ _ h'
          subst h'
          exact ⟨h1, h2⟩
      have GP := Lib.hid (hput_any HD6.out q s 0 hqs A4 F c4 (by have := HC.out; have := HFL.out; omega) HKS.out.2.2.1 hcl4.1 hcl4.2 HKS.out.2.1 HA4.out)
      rw [HFL.out] at GP
      clear hcl4
      go_wp2_with fail
      refine GP.out.mono ?_
      rintro e w7 ⟨rfl, O2, hO2, hd7, hof7⟩
      have HO2 := Lib.hid hO2; have HD7 := Lib.hid hd7; have HOF7 := Lib.hid hof7
      clear hO2 hd7 hof7 j1 j2 j3
      have HN1 : Hid (∀ x, w.heap.size ≤ x → x < w5.heap.size → ¬O1 x) := fun x h1 h2 h => (HO1.out x h).elim (HNO.out x h1) (by omega)
      have HOF57 : Hid (Off O w5 w7) := HOF6.out.trans HOF7.out HO1.out
      have hgr5 : gr < w5.heap.size := Nat.lt_of_lt_of_le HRW4.out.lt HB5.out.size
      have hgrw : w.heap.size ≤ gr := Nat.le_trans HB2.out.size HGR.out
      have HRW7 : Hid (w7.rowIs gr 57 4 (rollCells (t + 1) nA b.length nc none 0 0 0)) := (HRW4.out.of_block (HB5.out.block _ HRW4.out.lt)).of_block (HOF57.out.block _ hgr5 (HNO.out gr hgrw))
      have x3 : w7.cell? ⟨gr, 3, none⟩ = some (.int .i64 0) := HRW7.out.cell (i := 3) (by omega)
      have f3 := HRW7.out.frozen 3
      have HON8 : Hid (Only gr w7 (w7.setCell ⟨gr, 3, none⟩ (.int .i64 (fl : Int)))) := (Only.refl _ _).set 3 _
      have HRW8 : Hid ((w7.setCell ⟨gr, 3, none⟩ (.int .i64 (fl : Int))).rowIs gr 57 4 (rollCells (t + 1) nA b.length nc none 0 0 fl)) := (HRW7.out.set 3 (.int .i64 (fl : Int))).congr fun j hj => by rcases four hj with rfl | rfl | rfl | rfl <;> rfl
      go_upto_region 13 with fail
      generalize w7.setCell ⟨gr, 3, none⟩ (.int .i64 (fl : Int)) = w8 at *
      clear x3 f3
      obtain ⟨hgjQ, hQlt, bA0, bc0, rA0, rc0, hrj, _⟩ := HM.out
      have hgjw : gj < w.heap.size := hQlt _ hgjQ
      have h05 : w5.heap[gj]? = w.heap[gj]? := (HB25.out.block gj (Nat.lt_of_lt_of_le hgjw HB2.out.size)).trans (HB2.out.block gj hgjw)
      have hw05 : w.heap.size ≤ w5.heap.size := Nat.le_trans HB2.out.size HB25.out.size
      have hne : gj ≠ gr := by omega
      have HRJ8 : Hid (w8.rowIs gj 59 7 (jCells g inn t bA0 base.length bc0 rA0 recs.length rc0 en)) :=
        ((hrj.of_block h05).of_block (HOF57.out.block gj (by omega) (fun h => HAP.out gj h hgjQ))).of_block (HON8.out.block gj (by have := HOF57.out.size; omega) hne)
      have HQQ := Lib.hid hgjQ; have HQL := Lib.hid hQlt
      clear hrj h05 hgjQ hQlt
      have e0 : ∀ e : ExtK (keepBlocks [gr]) w8.drew, e.val.cell? ⟨gr, 0, none⟩ = some (.int .i64 ((t : Int) + 1)) := fun e => (cell_of_block (e.property.2 gr (by simp)) _).trans (HRW8.out.cell (i := 0) (by omega))
      have e1 : ∀ e : ExtK (keepBlocks [gr]) w8.drew, e.val.cell? ⟨gr, 1, none⟩ = some (.slice nA b.length nc) := fun e => (cell_of_block (e.property.2 gr (by simp)) _).trans (HRW8.out.cell (i := 1) (by omega))
      have e2 : ∀ e : ExtK (keepBlocks [gr]) w8.drew, e.val.cell? ⟨gr, 2, none⟩ = some (.slice none 0 0) := fun e => (cell_of_block (e.property.2 gr (by simp)) _).trans (HRW8.out.cell (i := 2) (by omega))
      have e3 : ∀ e : ExtK (keepBlocks [gr]) w8.drew, e.val.cell? ⟨gr, 3, none⟩ = some (.int .i64 (fl : Int)) := fun e => (cell_of_block (e.property.2 gr (by simp)) _).trans (HRW8.out.cell (i := 3) (by omega))
      refine wp_region_held_lit (keepBlocks [gr]) [(0, true), (1, true), (2, true), (3, true), (4, true), (5, true), (6, false), (7, true), (8, true), (9, false)] (by kernel_rfl) (by kernel_rfl) (fun _ _ d _ _ h => by cases d <;> exact h) ?_
      simp only [picked, List.map_cons, List.map_nil, List.getElem?_cons_succ, List.getElem?_cons_zero, Option.getD_some]
      repeat (refine wpH_quiet (by rfl) (fun K hK => ?_); go_big_quiet_op; refine hK _ ?_; clear hK K)
      clear e0 e1 e2 e3
      have HR0 := Lib.hid HRJ8.out.drew
      have y1 : w8.drew.cell? ⟨gj, 1, none⟩ = some (.int .i64 (inn : Int)) := HR0.out.cell (i := 1) (by omega)
      have q1 := HR0.out.frozen 1
      refine wpH_one (by rfl) (fun K hK => ?_)
      go_simp
      refine hK _ _ (keep_one (by simp) (Below.heap_setCell _ _ _ _ (by show gr ≠ gj; omega))) ?_
      clear hK K y1 q1
      have HR1 := Lib.hid (World.rowIs.drew (HRJ8.out.set 1 (.int .i64 (i : Int))))
      have HON1 : Hid (Only gj w8 (w8.setCell ⟨gj, 1, none⟩ (.int .i64 (i : Int))).drew) := ((Only.refl _ _).set 1 _).drew
      generalize (w8.setCell ⟨gj, 1, none⟩ (.int .i64 (i : Int))).drew = w9 at *
      repeat (refine wpH_quiet (by rfl) (fun K hK => ?_); go_big_quiet_op; refine hK _ ?_; clear hK K)
      have q2 := HR1.out.frozen 2
      have y2 : w9.cell? ⟨gj, 2, none⟩ = some (.int .i64 (t : Int)) := HR1.out.cell (i := 2) (by omega)
      have HR2 := Lib.hid (HR1.out.set 2 (.int .i64 ((t : Int) + 1)))
      have q3 := HR2.out.frozen 3
      have y3 : (w9.setCell ⟨gj, 2, none⟩ (.int .i64 ((t : Int) + 1))).cell? ⟨gj, 3, none⟩ = some (.slice bA0 base.length bc0) := HR2.out.cell (i := 3) (by omega)
      have HR3 := Lib.hid (HR2.out.set 3 (.slice nA b.length nc))
      have q4 := HR3.out.frozen 4
      have y4 : ((w9.setCell ⟨gj, 2, none⟩ (.int .i64 ((t : Int) + 1))).setCell ⟨gj, 3, none⟩ (.slice nA b.length nc)).cell? ⟨gj, 4, none⟩ = some (.slice rA0 recs.length rc0) := HR3.out.cell (i := 4) (by omega)
      have HR4 := Lib.hid (HR3.out.set 4 (.slice none 0 0))
      have q5 := HR4.out.frozen 5
      have y5 : (((w9.setCell ⟨gj, 2, none⟩ (.int .i64 ((t : Int) + 1))).setCell ⟨gj, 3, none⟩ (.slice nA b.length nc)).setCell ⟨gj, 4, none⟩ (.slice none 0 0)).cell? ⟨gj, 5, none⟩ = some (.int .i64 (en : Int)) := HR4.out.cell (i := 5) (by omega)
      have HR5 := Lib.hid (HR4.out.set 5 (.int .i64 (fl : Int)))
      have HON2 : Hid (Only gj w9 ((((w9.setCell ⟨gj, 2, none⟩ (.int .i64 ((t : Int) + 1))).setCell ⟨gj, 3, none⟩ (.slice nA b.length nc)).setCell ⟨gj, 4, none⟩ (.slice none 0 0)).setCell ⟨gj, 5, none⟩ (.int .i64 (fl : Int)))) := ((((Only.refl _ _).set 2 _).set 3 _).set 4 _).set 5 _
      refine wpH_one (by rfl) (fun K hK => ?_)
      go_simp
      refine hK _ _ (keep_one HON2.out.size (HON2.out.block _ (by have := HRW8.out.lt; have := HON1.out.size; omega) (by omega))) ?_
      clear hK K q2 q3 q4 q5 y2 y3 y4 y5
      refine wpH_nil ?_
      have HRF : Hid (((((w9.setCell ⟨gj, 2, none⟩ (.int .i64 ((t : Int) + 1))).setCell ⟨gj, 3, none⟩ (.slice nA b.length nc)).setCell ⟨gj, 4, none⟩ (.slice none 0 0)).setCell ⟨gj, 5, none⟩ (.int .i64 (fl : Int))).rowIs gj 59 7 (jCells g i (t + 1) nA b.length nc none 0 0 fl)) := HR5.out.congr fun j hj => by
        rcases seven' hj with rfl | rfl | rfl | rfl | rfl | rfl | rfl <;> rfl
      generalize (((w9.setCell ⟨gj, 2, none⟩ (.int .i64 ((t : Int) + 1))).setCell ⟨gj, 3, none⟩ (.slice nA b.length nc)).setCell ⟨gj, 4, none⟩ (.slice none 0 0)).setCell ⟨gj, 5, none⟩ (.int .i64 (fl : Int)) = wf at *
      go_wp2
      go_ret
      have hO2 : ∀ x, O2 x → O x ∨ w.heap.size ≤ x := fun x hx => (HO2.out x hx).elim (fun h => (HO1.out x h).imp id (by omega)) (fun h => .inr (by have := HOF6.out.size; omega))
      have hon89 : Only gj w8 wf := HON1.out.trans HON2.out
      have hw78 := HON8.out.size
      have hw57 := HOF57.out.size
      have hgjO2 : ¬O2 gj := fun h => (HO2.out gj h).elim (fun h => HN1.out gj |> fun _ => (HO1.out gj h).elim (fun h => HAP.out gj h HQQ.out) (by omega)) (fun h => by have := HOF6.out.size; omega)
      have hgrO2 : ¬O2 gr := fun h => (HO2.out gr h).elim (HN1.out gr hgrw hgr5) (fun h => by have := HOF6.out.size; omega)
      have hnaw : ∀ a, nA = some a → w.heap.size ≤ a.block ∧ a.block < w5.heap.size ∧ a.block ≠ gr := fun a ha => by
        obtain ⟨h1, h2, h3⟩ := HNN.out a ha
        have := HB2.out.size
        have := HS4.out
        have := HB5.out.size
        exact ⟨by omega, by omega, h2⟩
      refine .inr ⟨by rw [HFL.out, HC.out]; omega, rfl, O2, fun x => Q x ∨ ∃ a, nA = some a ∧ x = a.block, patch (patch B (64 * q + 0) (zeros (64 * s - 0))) (64 * q + 0) F, hO2, ?_, ?_, ?_, ?_, ?_, ?_⟩
      · rintro x (hx | ⟨a, ha, rfl⟩)
        · exact .inl hx
        · exact .inr (hnaw a ha).1
      · rintro x hx (hq | ⟨a, ha, rfl⟩)
        · rcases HO2.out x hx with h | h
          · rcases HO1.out x h with h | h
            · exact HAP.out x h hq
            · have := HQL.out x hq; omega
          · have := HQL.out x hq
            have := HOF6.out.size
            omega
        · obtain ⟨h1, h2, h3⟩ := hnaw a ha
          rcases HO2.out _ hx with h | h
          · exact HN1.out _ h1 h2 h
          · have := HOF6.out.size; omega
      · have h1 := (HD7.out.only HON8.out hgrO2).only hon89 hgjO2
        rw [← HFL.out] at h1
        exact h1.le (Nat.le_refl _) HKS.out.2.2.2
      · refine ⟨.inl HQQ.out, ?_, nA, nc, none, 0, ?_, ?_, ?_, RowsL.nil _ _⟩
        · rintro x (hx | ⟨a, ha, rfl⟩)
          · have := HQL.out x hx; have := hon89.size; omega
          · have := (hnaw a ha).2.1; have := hon89.size; omega
        · have h := HRF.out
          rw [← HFL.out] at h
          exact h
        · have h5 := HATN4.out.below HB5.out
          have h7 := bytes_kept h5 HOF57.out.size fun a ha hlt => HOF57.out.block _ hlt (HNO.out _ (hnaw a ha).1)
          have h8 := bytes_kept h7 HON8.out.size fun a ha hlt => HON8.out.block _ hlt (hnaw a ha).2.2
          exact bytes_kept h8 hon89.size fun a ha hlt => hon89.block _ hlt (by have := (hnaw a ha).1; omega)
        · exact fun a ha => ⟨.inr ⟨a, ha, rfl⟩, by have := (hnaw a ha).1; omega, fun y hy => (by cases hy)⟩
      · have h := HH.out.begin hB hi (r := ⟨t + 1, b, []⟩) ⟨by have := HTT.out; show 1 ≤ t + 1 ∧ t + 1 ≤ _; omega, ⟨HBB.out, HBBB.out⟩, fun x hx => (by cases hx)⟩ rfl (by rw [HFF.out, HS.out, HFL.out]; have := HC.out; omega)
        rw [HFF.out, HQ.out, HS.out] at h
        exact h
      · have h1 : Off (fun x => O x ∨ Q x) w w5 := Off.of_below (HB2.out.trans (HB25.out.mono HB2.out.size))
        have h2 := h1.trans HOF57.out (fun x hx => .inl (.inl hx))
        have h3 := h2.trans (Off.of_only HON8.out (O := fun x => x = gr) rfl) (fun x hx => .inr (by omega))
        exact h3.trans (Off.of_only hon89 (O := fun x => x = gj) rfl) (fun x hx => .inl (.inr (by rw [hx]; exact HQQ.out)))
end Go.Proofs.Ytahfkcfbmklfpaa

/- What read answers of a half; the contract of settle. Condition: fewer than 2^39 acts and turns. -/
namespace Go.Proofs.Ytahfkcfbmklfpaa
open Go.RowKit Go.Deep

def rBaseOf : Option RollV → List Nat
  | none => []
  | some r => r.base
def rRecsOf : Option RollV → List (List Nat)
  | none => []
  | some r => r.recs
def rEndOf : Option RollV → Nat
  | none => 0
  | some r => r.bytes.length
theorem read_half (b off c n : Nat) (x : Option RollV) (hf : FitsIn n x) (h1 : 1 ≤ n) (hn : n ≤ 4194304) (hnc : n ≤ c) (hc : c ≤ maxLen) (w : World) (h : BytesAt w (some ⟨b, off, none⟩) (halfB n x)) :
    Calls Try.prog 26 #[.slice (some ⟨b, off, none⟩) n c] w fun e w' => (∃ v, e = .returned v ∧ RollVal (fun k => w.heap.size ≤ k) w' v (turnOf x) (rBaseOf x) (rRecsOf x) (rEndOf x)) ∧ Below w.heap.size w w' := by
  cases x with
  | none => exact read_none b off c n h1 (by simp only [maxLen]; omega) w h
  | some r => exact read_yes b off c n r hf.1 hf.2 hn hnc hc w h
/-- Noughts behind a roll are there already. -/
theorem wiped_same {n : Nat} {B : List Nat} {o : Nat → Option RollV} (h : Halves n B o) (hB : B.length = 64 * n) {i : Nat} (hi : i < 2) {r : RollV} (hr : o i = some r) : patch B (64 * (i * (n / 2)) + r.bytes.length) (zeros (64 * (n / 2) - r.bytes.length)) = B ∧ r.bytes.length ≤ 64 * (n / 2) := by
  obtain ⟨h8, h2⟩ := h
  obtain ⟨h3, h4⟩ := h2 i hi
  rw [hr] at h3 h4
  obtain ⟨s, hs⟩ : ∃ s, n / 2 = s := ⟨_, rfl⟩
  rw [hs] at h3 h4 ⊢
  have hin : i * s + s ≤ n := by rcases (show i = 0 ∨ i = 1 by omega) with rfl | rfl <;> omega
  have hl : r.bytes.length ≤ 64 * s := h4.2
  refine ⟨patch_same (by rw [zeros_length]; omega) fun j hj => ?_, hl⟩
  rw [zeros_length] at hj
  rw [zeros_get hj]
  have h5 : (seg B (i * s) s)[r.bytes.length + j]? = some 0 := by
    rw [h3]
    show (r.bytes ++ List.replicate (64 * s - r.bytes.length) 0)[r.bytes.length + j]? = some 0
    rw [List.getElem?_append_right (by omega), List.getElem?_replicate, if_pos (by omega)]
  rw [seg_get, if_pos (by omega)] at h5
  rw [← h5]
  congr 1
  omega

set_option maxHeartbeats 2000000 in
set_option maxRecDepth 100000 in
/-- settle, of a journal: nothing is to be done. -/
theorem settle_yes {O Q : Nat → Prop} {gj g inn n k : Nat} {B : List Nat} {r : RollV} {o : Nat → Option RollV} {w : World} (hd : JDisk O g n B 0 k w) (hm : JMem Q gj g inn r.turn r.base r.recs r.bytes.length w) (hap : ∀ x, O x → ¬Q x) (hH : Halves n B o) (hi : inn < 2) (ho : o inn = some r) (hk : k ≤ 549755813888) :
    Calls Try.prog 29 #[.pointer (some ⟨gj, 0, none⟩)] w fun e w' => e = .returned (.int .i64 0) ∧ ∃ O' : Nat → Prop, (∀ x, O' x → O x ∨ w.heap.size ≤ x) ∧ JDisk O' g n B 0 (k + 70000) w' ∧ JMem Q gj g inn r.turn r.base r.recs r.bytes.length w' ∧ (∀ x, O' x → ¬Q x) ∧ Off O w w' := by
  obtain ⟨hB, _, hn2⟩ := hd.size
  have HD := Lib.hid hd; have HM := Lib.hid hm; have HAP := Lib.hid hap
  obtain ⟨hws, hen⟩ := wiped_same hH hB hi ho
  have HWS := Lib.hid hws
  have hfit := (hH.2 inn hi).2
  rw [ho] at hfit
  have hT1 := hfit.1.turn.1
  have hT2 := hfit.1.turn.2
  have GH := Lib.hid (half_any (hd.below (Below.refl w.heap.size w).drew) (hm.below (Below.refl w.heap.size w).drew) inn hi (inn : Int) rfl)
  obtain ⟨q, HQ⟩ : ∃ q, Hid (inn * (n / 2) = q) := ⟨_, rfl⟩
  obtain ⟨s, HS⟩ : ∃ s, Hid (n / 2 = s) := ⟨_, rfl⟩
  have hqs : q + s ≤ n := by
    have h1 := HQ.out
    have h2 := HS.out
    rcases (show inn = 0 ∨ inn = 1 by omega) with rfl | rfl <;> omega
  rw [HQ.out, HS.out] at GH HWS
  rw [HS.out] at hen
  have GW := Lib.hid (fun w (h : JDisk O g n B 0 k w) => hwipe_any h q s r.bytes.length hqs hen (by omega))
  rw [HWS.out] at GW
  have HKS : Hid (k + s + 1 ≤ k + 70000) := by show _ ≤ _; omega
  obtain ⟨_, _, bA, bc, rA, rc, hr, _⟩ := hm
  obtain ⟨T, HT⟩ : ∃ T, Hid (r.turn = T) := ⟨_, rfl⟩
  obtain ⟨E, HE⟩ : ∃ E, Hid (r.bytes.length = E) := ⟨_, rfl⟩
  rw [HT.out, HE.out] at hr
  rw [HT.out] at hT1 hT2
  rw [HE.out] at GW
  have c2 : w.cell? ⟨gj, 2, none⟩ = some (.int .i64 (T : Int)) := hr.cell (i := 2) (by omega)
  have e1 : ∀ e : ExtK (keepBlocks [gj]) w.drew, e.val.cell? ⟨gj, 1, none⟩ = some (.int .i64 (inn : Int)) := fun e => (cell_of_block (e.property.2 gj (by simp)) _).trans (hr.cell (i := 1) (by omega))
  have e5 : ∀ e : ExtK (keepBlocks [gj]) w.drew, e.val.cell? ⟨gj, 5, none⟩ = some (.int .i64 (E : Int)) := fun e => (cell_of_block (e.property.2 gj (by simp)) _).trans (hr.cell (i := 5) (by omega))
  have HGJ := Lib.hid hr.lt
  have hT0 : ((T : Int) == 0) = false := beq_eq_false_iff_ne.2 (by omega)
  clear hr hd hap hH ho hfit hws hen hk hT1 hT2
  go_enter Try.func29, Try.ntmps29
  go_wp2_with fail
  clear c2
  refine wp_region_held_lit (keepBlocks [gj]) [(0, true), (1, true), (2, true), (3, true), (4, true), (6, true), (7, true), (8, true), (9, true), (10, true), (5, false), (11, false), (12, true)] (by kernel_rfl) (by kernel_rfl) (fun _ _ d _ _ h => by cases d <;> exact h) ?_
  simp only [picked, List.map_cons, List.map_nil, List.getElem?_cons_succ, List.getElem?_cons_zero, Option.getD_some]
  repeat (refine wpH_quiet (by rfl) (fun K hK => ?_); go_big_quiet_op; refine hK _ ?_; clear hK K)
  clear e1 e5
  refine wpH_one (by rfl) (fun K hK => ?_)
  go_simp
  refine GH.out.mono ?_
  rintro e w1 ⟨rfl, hb1⟩
  have HB1 : Hid (Below w.heap.size w w1) := (Below.refl w.heap.size w).drew.trans hb1
  refine hK _ _ (keep_one hb1.size (hb1.block _ HGJ.out)) ?_
  clear hK K hb1
  refine wpH_one (by rfl) (fun K hK => ?_)
  go_simp
  refine (GW.out _ (HD.out.below HB1.out)).mono ?_
  rintro e w2 ⟨rfl, O', hO', hd2, hof2⟩
  have HO' := Lib.hid hO'; have HD2 := Lib.hid hd2; have HOF2 := Lib.hid hof2
  refine hK _ _ (keep_one hof2.size (hof2.block _ (Nat.lt_of_lt_of_le HGJ.out HB1.out.size) (fun h => HAP.out _ h HM.out.1))) ?_
  clear hK K hO' hd2 hof2
  repeat (refine wpH_quiet (by rfl) (fun K hK => ?_); go_big_quiet_op; refine hK _ ?_; clear hK K)
  refine wpH_nil ?_
  go_wp2
  go_ret
  refine ⟨rfl, O', fun x hx => (HO'.out x hx).imp id (fun h => Nat.le_trans HB1.out.size h), HD2.out.le (Nat.le_refl _) HKS.out, (HM.out.below HB1.out).off HOF2.out (fun x hx h => HAP.out x h hx), fun x hx hq => (HO'.out x hx).elim (fun h => HAP.out x h hq) (fun h => by have := HM.out.2.1 x hq; have := HB1.out.size; omega), ?_⟩
  exact (Off.of_below (O := O) HB1.out).trans HOF2.out fun x hx => .inl hx
set_option maxHeartbeats 2000000 in
set_option maxRecDepth 100000 in
/-- settle, of none: it is begun. -/
theorem settle_no {O Q : Nat → Prop} {gj g inn n k : Nat} {B : List Nat} {o : Nat → Option RollV} {w : World} (hd : JDisk O g n B 0 k w) (hm : JMem Q gj g inn 0 [] [] 0 w) (hap : ∀ x, O x → ¬Q x) (hH : Halves n B o) (hk : k ≤ 549755813888) :
    Calls Try.prog 29 #[.pointer (some ⟨gj, 0, none⟩)] w fun e w' => e = .returned (.int .i64 0) ∧ ∃ (O' Q' : Nat → Prop) (B' : List Nat), (∀ x, O' x → O x ∨ w.heap.size ≤ x) ∧ (∀ x, Q' x → Q x ∨ w.heap.size ≤ x) ∧ (∀ x, O' x → ¬Q' x) ∧
        JDisk O' g n B' 0 (k + 200000) w' ∧ JMem Q' gj g 0 1 [] [] (⟨1, [], []⟩ : RollV).bytes.length w' ∧ Halves n B' (fun j => if j = 0 then some ⟨1, [], []⟩ else o j) ∧ Off (fun x => O x ∨ Q x) w w' := by
  have GB := Lib.hid (begin_any hd hm hap hH 0 (by omega) (by omega) hk none [] 0 (by simp) (fun x h => (by cases h)) (.inl rfl) 0 rfl)
  have hfl : (⟨0 + 1, [], []⟩ : RollV).first.length = 6 := by rw [first_length]; rfl
  have hbl : (⟨1, [], []⟩ : RollV).bytes.length = (⟨0 + 1, [], []⟩ : RollV).first.length := by simp [RollV.bytes]
  have HFL := Lib.hid hfl; have HBL := Lib.hid hbl
  have h8 := Lib.hid hH.1
  obtain ⟨_, _, bA, bc, rA, rc, hr, _⟩ := hm
  have c2 : w.cell? ⟨gj, 2, none⟩ = some (.int .i64 0) := hr.cell (i := 2) (by omega)
  clear hr hfl hbl
  go_enter Try.func29, Try.ntmps29
  go_wp2_with fail
  refine GB.out.mono ?_
  rintro e w1 (⟨h1, _⟩ | ⟨_, rfl, h⟩)
  · rw [HFL.out] at h1
    have := h8.out
    omega
  · have H := Lib.hid h; clear h
    go_wp2
    go_ret
    rw [HBL.out]
    exact ⟨rfl, H.out⟩
end Go.Proofs.Ytahfkcfbmklfpaa

/- The contract of journal.Open: of nil; of a new disk; of one that holds a journal. Condition: fewer than 2^38 acts and turns. -/
namespace Go.Proofs.Ytahfkcfbmklfpaa
open Go.RowKit Go.Deep

theorem open_nil (w : World) : Calls Try.prog 9 #[.pointer none] w fun e w' => e = .returned (.tuple #[.pointer none, .int .i64 1]) ∧ w = w' := by
  have GS : Hid (Calls Try.prog 24 #[.pointer none] w fun e w' => e = .returned (.int .i64 0) ∧ w = w') := by
    show Calls _ _ _ _ _
    go_enter Try.func24, Try.ntmps24
    go_wp2
    go_ret
    exact ⟨rfl, rfl⟩
  go_enter Try.func9, Try.ntmps9
  go_wp2_with fail
  refine GS.out.mono ?_
  rintro e w' ⟨rfl, rfl⟩
  go_wp2
  go_ret2
  exact ⟨rfl, rfl⟩
/-- The half with the greatest turn, of the first k. -/
def best (o : Nat → Option RollV) : Nat → Nat × Option RollV
  | 0 => (0, none)
  | k + 1 => if turnOf (best o k).2 < turnOf (o k) then (k, o k) else best o k
theorem best_none {o : Nat → Option RollV} (h0 : o 0 = none) (h1 : o 1 = none) : best o 2 = (0, none) := by
  simp [best, h0, h1, turnOf]
theorem best_some {o : Nat → Option RollV} {inn : Nat} {r : RollV} (hi : inn < 2) (ho : o inn = some r) (h1 : 1 ≤ r.turn) (hlt : turnOf (o (1 - inn)) < r.turn) : best o 2 = (inn, some r) := by
  rcases (show inn = 0 ∨ inn = 1 by omega) with rfl | rfl
  · have e1 : best o 1 = (0, some r) := by
      rw [best, ho, if_pos (by show 0 < r.turn; omega)]
    rw [best, e1, if_neg ?_]
    show ¬r.turn < turnOf (o 1)
    have : turnOf (o 1) < r.turn := hlt
    omega
  · have e1 : turnOf (best o 1).2 < r.turn := by
      rw [best]
      split
      · exact hlt
      · show 0 < r.turn; omega
    rw [best, ho]
    exact if_pos e1
theorem best_lt (o : Nat → Option RollV) (k : Nat) : (best o k).1 ≤ k := by
  induction k with
  | zero => exact Nat.le_refl _
  | succ k ih =>
    rw [best]
    split
    · exact Nat.le_succ _
    · omega
theorem JMem.mono {Q Q' : Nat → Prop} {gj g inn t en : Nat} {base : List Nat} {recs : List (List Nat)} {w : World} (h : JMem Q gj g inn t base recs en w) (hQ : ∀ x, Q x → Q' x) (hlt : ∀ x, Q' x → x < w.heap.size) : JMem Q' gj g inn t base recs en w := by
  obtain ⟨h1, h2, bA, bc, rA, rc, h3, h4, h5, h6⟩ := h
  exact ⟨hQ _ h1, hlt, bA, bc, rA, rc, h3, h4, fun a ha => ⟨hQ _ (h5 a ha).1, (h5 a ha).2⟩, h6.kept (Nat.le_refl _) (fun _ _ _ => rfl) fun k hk _ => ⟨hQ k hk.1, hk.2⟩⟩

set_option maxHeartbeats 4000000 in
set_option maxRecDepth 100000 in
/-- Both halves are looked at: what stands behind the loop. -/
theorem open_any {O : Nat → Prop} {g n k : Nat} {B : List Nat} {o : Nat → Option RollV} {w : World} (hd : JDisk O g n B 0 k w) (hH : Halves n B o) (hk : k ≤ 274877906944) :
    Calls Try.prog 9 #[.pointer (some ⟨g, 0, none⟩)] w fun e w' => ∃ (gj : Nat) (O' Q' : Nat → Prop) (B' : List Nat) (o' : Nat → Option RollV) (inn : Nat) (r : RollV), e = .returned (.tuple #[.pointer (some ⟨gj, 0, none⟩), .int .i64 0]) ∧
      (∀ x, O' x → O x ∨ w.heap.size ≤ x) ∧ (∀ x, Q' x → w.heap.size ≤ x) ∧ (∀ x, O' x → ¬Q' x) ∧ JDisk O' g n B' 0 (k + 300000) w' ∧ JMem Q' gj g inn r.turn r.base r.recs r.bytes.length w' ∧ Halves n B' o' ∧ Off O w w' ∧
      ((best o 2 = (inn, some r) ∧ o' = o) ∨ ((best o 2).2 = none ∧ inn = 0 ∧ r = ⟨1, [], []⟩ ∧ o' = fun j => if j = 0 then some ⟨1, [], []⟩ else o j)) := by
  obtain ⟨hB, _, hn2⟩ := hd.size
  have h8 := hH.1
  have HH := Lib.hid hH
  have GS := Lib.hid (jsectors_any hd)
  have GF := Lib.hid (jflush_any hd (by omega) (by omega))
  have HBL : Hid (B.length = 64 * n) := hB
  clear hd hH hB
  go_enter Try.func9, Try.ntmps9
  go_wp2_with fail
  refine GS.out.mono ?_
  rintro e w' ⟨rfl, rfl⟩
  go_wp2_with fail
  refine GF.out.mono ?_
  rintro e w1 ⟨rfl, hd1, ho1⟩
  have HD1 := Lib.hid hd1; have HO1 := Lib.hid ho1
  clear hd1 ho1
  go_wp2_with fail
  have HJ0 : Hid (JMem (fun b => w1.heap.size ≤ b ∧ b < (w1.alloc (.cells #[.pointer (some ⟨g, 0, none⟩), .int .i64 0, .int .i64 0, .slice none 0 0, .slice none 0 0, .int .i64 0, .bool false] 59)).heap.size) w1.heap.size g 0 0 [] [] 0 (w1.alloc (.cells #[.pointer (some ⟨g, 0, none⟩), .int .i64 0, .int .i64 0, .slice none 0 0, .slice none 0 0, .int .i64 0, .bool false] 59))) := by
    refine ⟨⟨Nat.le_refl _, by simp⟩, fun x hx => hx.2, none, 0, none, 0, World.rowIs_alloc w1 #[.pointer (some ⟨g, 0, none⟩), .int .i64 0, .int .i64 0, .slice none 0 0, .slice none 0 0, .int .i64 0, .bool false] 59 _ fun j hj => ?_, .inl rfl, fun a h => (by cases h), RowsL.nil _ _⟩
    rcases seven' (by simpa using hj) with rfl | rfl | rfl | rfl | rfl | rfl | rfl <;> rfl
  have HB0 : Hid (Below w1.heap.size w1 (w1.alloc (.cells #[.pointer (some ⟨g, 0, none⟩), .int .i64 0, .int .i64 0, .slice none 0 0, .slice none 0 0, .int .i64 0, .bool false] 59))) := (Below.refl _ _).alloc (Nat.le_refl _) _
  generalize w1.alloc (.cells #[.pointer (some ⟨g, 0, none⟩), .int .i64 0, .int .i64 0, .slice none 0 0, .slice none 0 0, .int .i64 0, .bool false] 59) = w2 at *
  obtain ⟨gj, HGJ⟩ : ∃ gj, Hid (w1.heap.size = gj) := ⟨_, rfl⟩
  rw [HGJ.out] at HJ0 ⊢
  have HOL : Hid (∀ x, O x → x < w1.heap.size) := HD1.out.lt.2
  go_loopw [6, 7, 20] (fun v6 v7 vi wr => ∃ kk : Nat, kk ≤ 2 ∧ vi = .int .i64 (kk : Int) ∧ Hid (JMem (fun b => gj ≤ b ∧ b < wr.heap.size) gj g (best o kk).1 (turnOf (best o kk).2) (rBaseOf (best o kk).2) (rRecsOf (best o kk).2) (rEndOf (best o kk).2) wr ∧ Below w1.heap.size w1 wr)) (fun _ _ vi _ => 2 - (intOf vi).toNat)
  case atStart => exact ⟨0, by omega, rfl, HJ0.out, HB0.out⟩
  case round =>
    obtain ⟨kk, hkk, rfl, HR⟩ := hrel
    by_cases hlt : kk < 2
    · have hseg := HH.out.2 kk hlt
      have HFI := Lib.hid hseg.2
      have HD2 := Lib.hid (HD1.out.below HR.out.2)
      have GH := Lib.hid (half_any HD2.out HR.out.1 kk hlt (kk : Int) rfl)
      obtain ⟨q, HQ⟩ : ∃ q, Hid (kk * (n / 2) = q) := ⟨_, rfl⟩
      obtain ⟨s, HS⟩ : ∃ s, Hid (n / 2 = s) := ⟨_, rfl⟩
      have hqs : q + s ≤ n ∧ 1 ≤ s ∧ s ≤ 65536 := by
        have h1 := HQ.out
        have h2 := HS.out
        rcases (show kk = 0 ∨ kk = 1 by omega) with rfl | rfl <;> omega
      have HSG : Hid (seg B q s = halfB (64 * s) (o kk)) := by
        have := hseg.1
        rw [HQ.out, HS.out] at this
        exact this
      rw [HQ.out, HS.out] at GH
      rw [HS.out] at HFI
      clear hseg
      have GBY := Lib.hid (fun w (h : JDisk O g n B 0 (k + 1) w) => hbytes_any h q s hqs.1)
      rw [HSG.out] at GBY
      have GRD := Lib.hid (fun b off c (hc : 64 * s ≤ c) (hc2 : c ≤ maxLen) w (h : BytesAt w (some ⟨b, off, none⟩) (halfB (64 * s) (o kk))) => read_half b off c (64 * s) (o kk) HFI.out (by omega) (by omega) hc hc2 w h)
      obtain ⟨C, HC⟩ : ∃ C, Hid (64 * s = C) := ⟨_, rfl⟩
      have hC : 1 ≤ C := by have := HC.out; omega
      have HHL : Hid ((halfB C (o kk)).length = C) := by
        have := halfB_length HFI.out
        rw [HC.out] at this
        exact this
      rw [HC.out] at GBY GRD
      go_wp2_with fail
      refine GH.out.mono ?_
      rintro e w3 ⟨rfl, hb3⟩
      have HB3 : Hid (Below wr.heap.size wr w3) := hb3
      clear hb3
      go_wp2_with fail
      refine (GBY.out _ (HD2.out.below HB3.out)).mono ?_
      rintro e w4 ⟨v4, rfl, ho4, hb4⟩
      have HB4 : Hid (Below wr.heap.size wr w4) := HB3.out.trans (hb4.mono HB3.out.size)
      obtain ⟨gb, cb, rfl, _, hlt4⟩ := ho4.form (by omega)
      have hcap : C ≤ cb ∧ cb ≤ maxLen := by
        rcases ho4.2 with ⟨e, _⟩ | ⟨g', cap', cur, h', _, _, h1, h2, _⟩
        · cases e
        · injection h' with _ _ h'
          subst h'
          exact ⟨h1, h2⟩
      have GR2 := Lib.hid (GRD.out gb 0 cb hcap.1 hcap.2 w4 (BytesAt.of_own ho4 HHL.out.symm))
      clear hb4 ho4 hcap hlt4
      go_wp2_with fail
      refine GR2.out.mono ?_
      rintro e w5 ⟨⟨v5, rfl, bA, bc, rA, rc, rfl, hatb, hbb, hrows⟩, hb5⟩
      have HB5 : Hid (Below wr.heap.size wr w5) := HB4.out.trans (hb5.mono HB4.out.size)
      have HS5 : Hid (wr.heap.size ≤ w4.heap.size) := HB4.out.size
      have HATB := Lib.hid hatb; have HBB := Lib.hid hbb; have HROWS := Lib.hid hrows
      clear hatb hbb hrows hb5
      obtain ⟨T, HT⟩ : ∃ T, Hid (turnOf (o kk) = T) := ⟨_, rfl⟩
      obtain ⟨E, HE⟩ : ∃ E, Hid (rEndOf (o kk) = E) := ⟨_, rfl⟩
      obtain ⟨t0, HT0⟩ : ∃ t0, Hid (turnOf (best o kk).2 = t0) := ⟨_, rfl⟩
      have HN : Hid (best o (kk + 1) = if t0 < T then (kk, o kk) else best o kk) := by show _ = _; rw [best, HT.out, HT0.out]
      obtain ⟨bl, HBLN⟩ : ∃ bl, Hid ((rBaseOf (o kk)).length = bl) := ⟨_, rfl⟩
      obtain ⟨rl, HRLN⟩ : ∃ rl, Hid ((rRecsOf (o kk)).length = rl) := ⟨_, rfl⟩
      rw [HT.out, HE.out, HBLN.out, HRLN.out]
      go_upto_region 11 with fail
      have HRW6 : Hid ((w5.alloc (.cells #[.int .i64 (T : Int), .slice bA bl bc, .slice rA rl rc, .int .i64 (E : Int)] 57)).rowIs w5.heap.size 57 4 (rollCells T bA bl bc rA rl rc E)) := World.rowIs_alloc w5 #[.int .i64 (T : Int), .slice bA bl bc, .slice rA rl rc, .int .i64 (E : Int)] 57 _ fun j hj => by
        rcases four (by simpa using hj) with rfl | rfl | rfl | rfl <;> rfl
      have hb56 : Below w5.heap.size w5 (w5.alloc (.cells #[.int .i64 (T : Int), .slice bA bl bc, .slice rA rl rc, .int .i64 (E : Int)] 57)) := (Below.refl _ _).alloc (Nat.le_refl _) _
      have HB56 := Lib.hid hb56
      have HB6 : Hid (Below wr.heap.size wr (w5.alloc (.cells #[.int .i64 (T : Int), .slice bA bl bc, .slice rA rl rc, .int .i64 (E : Int)] 57))) := HB5.out.trans (hb56.mono HB5.out.size)
      clear hb56
      obtain ⟨gr, HGR⟩ : ∃ gr, Hid (w5.heap.size = gr) := ⟨_, rfl⟩
      rw [HGR.out] at HRW6 ⊢
      generalize w5.alloc (.cells #[.int .i64 (T : Int), .slice bA bl bc, .slice rA rl rc, .int .i64 (E : Int)] 57) = w6 at *
      obtain ⟨_, _, bA0, bc0, rA0, rc0, hrj, hat0, hb0, hrows0⟩ := HR.out.1.below HB6.out
      rw [HT0.out] at hrj
      have HRJ := Lib.hid hrj; have HAT0 := Lib.hid hat0; have HBB0 := Lib.hid hb0; have HROWS0 := Lib.hid hrows0
      clear hrj hat0 hb0 hrows0
      have hgjr : gj < wr.heap.size ∧ wr.heap.size ≤ gr := ⟨HR.out.1.1.2, by have := HGR.out; have := HB5.out.size; omega⟩
      have e2 : ∀ e : ExtK (keepBlocks [gj, gr]) w6.drew, e.val.cell? ⟨gj, 2, none⟩ = some (.int .i64 (t0 : Int)) := fun e => (cell_of_block (e.property.2 gj (by simp)) _).trans (HRJ.out.cell (i := 2) (by omega))
      have e0 : ∀ e : ExtK (keepBlocks [gj, gr]) w6.drew, e.val.cell? ⟨gr, 0, none⟩ = some (.int .i64 (T : Int)) := fun e => (cell_of_block (e.property.2 gr (by simp)) _).trans (HRW6.out.cell (i := 0) (by omega))
      refine wp_region_held_lit (keepBlocks [gj, gr]) [(0, true), (1, true), (2, true), (3, true), (4, true), (5, true), (6, true), (7, true)] (by kernel_rfl) (by kernel_rfl) (fun _ _ d _ _ h => by cases d <;> exact h) ?_
      simp only [picked, List.map_cons, List.map_nil, List.getElem?_cons_succ, List.getElem?_cons_zero, Option.getD_some]
      repeat (refine wpH_quiet (by rfl) (fun K hK => ?_); go_big_quiet_op; refine hK _ ?_; clear hK K)
      clear e0 e2
      refine wpH_nil ?_
      by_cases hTT : t0 < T
      · have HRW7 := Lib.hid HRW6.out.drew; have HRJ7 := Lib.hid HRJ.out.drew
        have HB7 : Hid (Below wr.heap.size wr w6.drew) := HB6.out.drew
        have HATB7 : Hid (BytesAt w6.drew bA (rBaseOf (o kk))) := (HATB.out.below HB56.out).below (Below.refl w6.heap.size w6).drew
        have HROWS7 : Hid (RowsL (fun k => w4.heap.size ≤ k) w6.drew rA rc (rRecsOf (o kk))) := (HROWS.out.below HB56.out).below (Below.refl w6.heap.size w6).drew
        have HGR5 : Hid (w5.heap.size = gr ∧ w5.heap.size ≤ w6.drew.heap.size) := ⟨HGR.out, HB56.out.size⟩
        generalize w6.drew = w8 at *
        go_wp2_with fail
        have e0 : ∀ e : ExtK (keepBlocks [gr]) w8.drew, e.val.cell? ⟨gr, 0, none⟩ = some (.int .i64 (T : Int)) := fun e => (cell_of_block (e.property.2 gr (by simp)) _).trans (HRW7.out.cell (i := 0) (by omega))
        have e1 : ∀ e : ExtK (keepBlocks [gr]) w8.drew, e.val.cell? ⟨gr, 1, none⟩ = some (.slice bA bl bc) := fun e => (cell_of_block (e.property.2 gr (by simp)) _).trans (HRW7.out.cell (i := 1) (by omega))
        have e2 : ∀ e : ExtK (keepBlocks [gr]) w8.drew, e.val.cell? ⟨gr, 2, none⟩ = some (.slice rA rl rc) := fun e => (cell_of_block (e.property.2 gr (by simp)) _).trans (HRW7.out.cell (i := 2) (by omega))
        have e3 : ∀ e : ExtK (keepBlocks [gr]) w8.drew, e.val.cell? ⟨gr, 3, none⟩ = some (.int .i64 (E : Int)) := fun e => (cell_of_block (e.property.2 gr (by simp)) _).trans (HRW7.out.cell (i := 3) (by omega))
        refine wp_region_held_lit (keepBlocks [gr]) [(0, true), (1, true), (2, true), (3, true), (4, true), (5, true), (6, false), (7, true), (8, true), (9, false)] (by kernel_rfl) (by kernel_rfl) (fun _ _ d _ _ h => by cases d <;> exact h) ?_
        simp only [picked, List.map_cons, List.map_nil, List.getElem?_cons_succ, List.getElem?_cons_zero, Option.getD_some]
        repeat (refine wpH_quiet (by rfl) (fun K hK => ?_); go_big_quiet_op; refine hK _ ?_; clear hK K)
        clear e0 e1 e2 e3
        have HR0 := Lib.hid HRJ7.out.drew
        have y1 : w8.drew.cell? ⟨gj, 1, none⟩ = some (.int .i64 ((best o kk).1 : Int)) := HR0.out.cell (i := 1) (by omega)
        have q1 := HR0.out.frozen 1
        refine wpH_one (by rfl) (fun K hK => ?_)
        go_simp
        refine hK _ _ (keep_one (by simp) (Below.heap_setCell _ _ _ _ (by show gr ≠ gj; omega))) ?_
        clear hK K y1 q1
        have HR1 := Lib.hid (World.rowIs.drew (HRJ7.out.set 1 (.int .i64 (kk : Int))))
        have HON1 : Hid (Only gj w8 (w8.setCell ⟨gj, 1, none⟩ (.int .i64 (kk : Int))).drew) := ((Only.refl _ _).set 1 _).drew
        generalize (w8.setCell ⟨gj, 1, none⟩ (.int .i64 (kk : Int))).drew = w9 at *
        repeat (refine wpH_quiet (by rfl) (fun K hK => ?_); go_big_quiet_op; refine hK _ ?_; clear hK K)
        have q2 := HR1.out.frozen 2
        have y2 : w9.cell? ⟨gj, 2, none⟩ = some (.int .i64 (t0 : Int)) := HR1.out.cell (i := 2) (by omega)
        have HR2 := Lib.hid (HR1.out.set 2 (.int .i64 (T : Int)))
        have q3 := HR2.out.frozen 3
        have y3 : (w9.setCell ⟨gj, 2, none⟩ (.int .i64 (T : Int))).cell? ⟨gj, 3, none⟩ = some (.slice bA0 (rBaseOf (best o kk).2).length bc0) := HR2.out.cell (i := 3) (by omega)
        have HR3 := Lib.hid (HR2.out.set 3 (.slice bA bl bc))
        have q4 := HR3.out.frozen 4
        have y4 : ((w9.setCell ⟨gj, 2, none⟩ (.int .i64 (T : Int))).setCell ⟨gj, 3, none⟩ (.slice bA bl bc)).cell? ⟨gj, 4, none⟩ = some (.slice rA0 (rRecsOf (best o kk).2).length rc0) := HR3.out.cell (i := 4) (by omega)
        have HR4 := Lib.hid (HR3.out.set 4 (.slice rA rl rc))
        have q5 := HR4.out.frozen 5
        have y5 : (((w9.setCell ⟨gj, 2, none⟩ (.int .i64 (T : Int))).setCell ⟨gj, 3, none⟩ (.slice bA bl bc)).setCell ⟨gj, 4, none⟩ (.slice rA rl rc)).cell? ⟨gj, 5, none⟩ = some (.int .i64 (rEndOf (best o kk).2 : Int)) := HR4.out.cell (i := 5) (by omega)
        have HR5 := Lib.hid (HR4.out.set 5 (.int .i64 (E : Int)))
        have HON2 : Hid (Only gj w9 ((((w9.setCell ⟨gj, 2, none⟩ (.int .i64 (T : Int))).setCell ⟨gj, 3, none⟩ (.slice bA bl bc)).setCell ⟨gj, 4, none⟩ (.slice rA rl rc)).setCell ⟨gj, 5, none⟩ (.int .i64 (E : Int)))) := ((((Only.refl _ _).set 2 _).set 3 _).set 4 _).set 5 _
        refine wpH_one (by rfl) (fun K hK => ?_)
        go_simp
        refine hK _ _ (keep_one HON2.out.size (HON2.out.block _ (by have := HRW7.out.lt; have := HON1.out.size; omega) (by omega))) ?_
        clear hK K q2 q3 q4 q5 y2 y3 y4 y5
        refine wpH_nil ?_
        have HRF : Hid (((((w9.setCell ⟨gj, 2, none⟩ (.int .i64 (T : Int))).setCell ⟨gj, 3, none⟩ (.slice bA bl bc)).setCell ⟨gj, 4, none⟩ (.slice rA rl rc)).setCell ⟨gj, 5, none⟩ (.int .i64 (E : Int))).rowIs gj 59 7 (jCells g kk T bA bl bc rA rl rc E)) := HR5.out.congr fun j hj => by
          rcases seven' hj with rfl | rfl | rfl | rfl | rfl | rfl | rfl <;> rfl
        generalize (((w9.setCell ⟨gj, 2, none⟩ (.int .i64 (T : Int))).setCell ⟨gj, 3, none⟩ (.slice bA bl bc)).setCell ⟨gj, 4, none⟩ (.slice rA rl rc)).setCell ⟨gj, 5, none⟩ (.int .i64 (E : Int)) = wf at *
        have hon : Only gj w8 wf := HON1.out.trans HON2.out
        have HONF := Lib.hid hon; clear hon
        go_wp2
        go_roundw
        case measure => simp [intOf]; omega
        have HN2 : Hid (best o (kk + 1) = (kk, o kk)) := by show _ = _; rw [HN.out, if_pos hTT]
        have hgjw1 : w1.heap.size = gj := HGJ.out
        refine ⟨kk + 1, by omega, by go_num, ?_, HONF.out.below (HR.out.2.trans (HB7.out.mono HR.out.2.size)) (by omega)⟩
        rw [HN2.out]
        show JMem _ gj g kk (turnOf (o kk)) (rBaseOf (o kk)) (rRecsOf (o kk)) (rEndOf (o kk)) wf
        rw [HT.out, HE.out]
        have hsz := HONF.out.size
        refine ⟨⟨Nat.le_refl _, HRF.out.lt⟩, fun x hx => hx.2, bA, bc, rA, rc, by rw [HBLN.out, HRLN.out]; exact HRF.out, bytes_kept HATB7.out hsz fun a ha hlt => HONF.out.block _ hlt (by have := (HBB.out a ha).1; have := HS5.out; omega), fun a ha => ?_, ?_⟩
        · obtain ⟨h1, h2, h3⟩ := HBB.out a ha
          have h4 := HS5.out
          have h5 := HGR5.out
          exact ⟨⟨by omega, by omega⟩, by omega, h3⟩
        · refine HROWS7.out.kept hsz (fun j hj hlt => HONF.out.block _ hlt (by have := HS5.out; omega)) fun j hj hlt => ⟨⟨by have := HS5.out; omega, by omega⟩, by have := HS5.out; omega⟩
      · have HN2 : Hid (best o (kk + 1) = best o kk) := by show _ = _; rw [HN.out, if_neg hTT]
        have HJ6 := Lib.hid ((HR.out.1.below HB6.out).below (Below.refl w6.heap.size w6).drew)
        go_wp2
        go_roundw
        case measure => simp [intOf]; omega
        refine ⟨kk + 1, by omega, by go_num, ?_, ?_⟩
        · rw [HN2.out]
          exact HJ6.out.mono (fun x hx => ⟨hx.1, Nat.lt_of_lt_of_le hx.2 HB6.out.size⟩) (fun x hx => hx.2)
        · exact (HR.out.2.trans (HB6.out.mono HR.out.2.size)).drew
    · obtain rfl : kk = 2 := by omega
      have HD2 := Lib.hid (HD1.out.below HR.out.2)
      have HAP : Hid (∀ x, O x → ¬(gj ≤ x ∧ x < wr.heap.size)) := fun x hx h => by have := HOL.out x hx; have := HGJ.out; omega
      have HSZ := Lib.hid HR.out.2.size
      have HB3 := Lib.hid HR.out.2
      have hB1 := best_lt o 2
      cases hb : (best o 2).2 with
      | none =>
        have HBN := Lib.hid hb
        have HM := HR.out.1
        have hi0 : (best o 2).1 = 0 := by
          have h1 : best o 2 = ((best o 2).1, none) := by rw [← hb]
          have h2 : (best o 1).2 = none ∧ best o 2 = best o 1 := by
            have e : best o 2 = if turnOf (best o 1).2 < turnOf (o 1) then (1, o 1) else best o 1 := rfl
            by_cases h : turnOf (best o 1).2 < turnOf (o 1)
            · rw [if_pos h] at e
              rw [e] at hb
              have hb' : o 1 = none := hb
              rw [hb'] at h
              exact absurd h (Nat.not_lt_zero _)
            · rw [if_neg h] at e
              exact ⟨by rw [← e]; exact hb, e⟩
          rw [h2.2]
          have e : best o 1 = if turnOf (best o 0).2 < turnOf (o 0) then (0, o 0) else best o 0 := rfl
          split at e <;> rw [e] <;> rfl
        rw [hb, hi0] at HM
        have GST := Lib.hid (settle_no HD2.out HM HAP.out HH.out (by omega))
        clear HM hb
        go_wp2_with fail
        refine GST.out.mono ?_
        rintro e w3 ⟨rfl, O', Q', B', h1, h2, h3, h4, h5, h6, h7⟩
        have H1 := Lib.hid h1; have H2 := Lib.hid h2; have H3 := Lib.hid h3; have H4 := Lib.hid h4; have H5 := Lib.hid h5; have H6 := Lib.hid h6; have H7 := Lib.hid h7
        clear h1 h2 h3 h4 h5 h6 h7
        go_wp2
        go_ret2
        have hw := HO1.out.size
        have hgw := HGJ.out
        have hsz := HSZ.out
        refine ⟨gj, O', Q', B', _, 0, ⟨1, [], []⟩, rfl, fun x hx => (H1.out x hx).imp id (by omega), fun x hx => (H2.out x hx).elim (fun h => by omega) (by omega), H3.out, H4.out.le (Nat.le_refl _) (by omega), H5.out, H6.out, ?_, .inr ⟨HBN.out, rfl, rfl, rfl⟩⟩
        have h1 := HO1.out.trans (Off.of_below (O := fun _ => False) HB3.out) (fun x h => h.elim)
        exact h1.trans H7.out (fun x hx => hx.imp id (fun h => by omega))
      | some r =>
        have HM := HR.out.1
        rw [hb] at HM
        have hbo : ∃ inn, inn < 2 ∧ best o 2 = (inn, some r) ∧ o inn = some r := by
          have e : best o 2 = if turnOf (best o 1).2 < turnOf (o 1) then (1, o 1) else best o 1 := rfl
          by_cases h : turnOf (best o 1).2 < turnOf (o 1)
          · rw [if_pos h] at e
            rw [e] at hb
            have hb' : o 1 = some r := hb
            exact ⟨1, by omega, by rw [e, hb'], hb'⟩
          · rw [if_neg h] at e
            rw [e] at hb ⊢
            have e1 : best o 1 = if turnOf (best o 0).2 < turnOf (o 0) then (0, o 0) else best o 0 := rfl
            by_cases h' : turnOf (best o 0).2 < turnOf (o 0)
            · rw [if_pos h'] at e1
              rw [e1] at hb ⊢
              have hb' : o 0 = some r := hb
              exact ⟨0, by omega, by rw [hb'], hb'⟩
            · rw [if_neg h'] at e1
              rw [e1] at hb
              cases hb
        obtain ⟨inn, hinn, hbe, hoi⟩ := hbo
        rw [hbe] at HM
        have HBE := Lib.hid hbe
        have GST := Lib.hid (settle_yes HD2.out HM HAP.out HH.out hinn hoi (by omega))
        clear HM hb hbe hoi
        go_wp2_with fail
        refine GST.out.mono ?_
        rintro e w3 ⟨rfl, O', h1, h4, h5, h3, h7⟩
        have H1 := Lib.hid h1; have H3 := Lib.hid h3; have H4 := Lib.hid h4; have H5 := Lib.hid h5; have H7 := Lib.hid h7
        clear h1 h3 h4 h5 h7
        go_wp2
        go_ret2
        have hw := HO1.out.size
        have hgw := HGJ.out
        have hsz := HSZ.out
        refine ⟨gj, O', _, B, o, inn, r, rfl, fun x hx => (H1.out x hx).imp id (by omega), fun x hx => by omega, H3.out, H4.out.le (Nat.le_refl _) (by omega), H5.out, HH.out, ?_, .inl ⟨HBE.out, rfl⟩⟩
        have h1 := HO1.out.trans (Off.of_below (O := fun _ => False) HB3.out) (fun x h => h.elim)
        exact h1.trans H7.out (fun x hx => .inl hx)
end Go.Proofs.Ytahfkcfbmklfpaa
