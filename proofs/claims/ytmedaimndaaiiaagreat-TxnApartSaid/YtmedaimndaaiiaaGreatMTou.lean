/- The landed txn's Touches: whom acts name, sorted, each once. Condition: no more than 2^20 acts. (Merged of 2 texts.) -/
import Derived.Test.YtmedaimndaaiiaaGreatMTxm
import Derived.Lib.SlicesCompact
import Derived.Test.YtmedaimndaaiiaaGreatMApp
import Derived.Test.YtmedaimndaaiiaaGreatMPl
import Derived.Test.YtmedaimndaaiiaaGreatMLand
import Derived.Test.YtmedaimndaaiiaaGreatShelf
/- Numbers sorted, each once: what slices.Sort and slices.Compact make is what the document's own way of putting them in makes. No condition. -/
namespace Go.Proofs.YtmedaimndaaiiaaGreat
open Go.Lib

/-- Numbers in order. -/
def srt (xs : List Int) : List Int := xs.mergeSort fun x y => decide (x ≤ y)
theorem srt_mem (xs : List Int) (y : Int) : y ∈ srt xs ↔ y ∈ xs := List.mem_mergeSort
theorem srt_length (xs : List Int) : (srt xs).length = xs.length := List.length_mergeSort _
theorem srt_le (xs : List Int) : (srt xs).Pairwise (· ≤ ·) := by
  have h := List.pairwise_mergeSort (le := fun x y : Int => decide (x ≤ y)) (fun a b c h1 h2 => by simp only [decide_eq_true_eq] at *; omega) (fun a b => by simp only [Bool.or_eq_true, decide_eq_true_eq]; omega) xs
  exact h.imp fun h => of_decide_eq_true h
theorem rise_ext : ∀ {a b : List Int}, Rise a → Rise b → (∀ y, y ∈ a ↔ y ∈ b) → a = b
  | [], [], _, _, _ => rfl
  | [], y :: b, _, _, h => by have := (h y).2 (List.mem_cons_self ..); cases this
  | x :: a, [], _, _, h => by have := (h x).1 (List.mem_cons_self ..); cases this
  | x :: a, y :: b, h1, h2, h => by
    have g1 := List.pairwise_cons.1 h1
    have g2 := List.pairwise_cons.1 h2
    have e : x = y := by
      have k1 := (h x).1 (List.mem_cons_self ..)
      have k2 := (h y).2 (List.mem_cons_self ..)
      rcases List.mem_cons.1 k1 with e | k1
      · exact e
      · rcases List.mem_cons.1 k2 with e | k2
        · exact e.symm
        · have := g1.1 y k2
          have := g2.1 x k1
          omega
    subst e
    rw [rise_ext g1.2 g2.2 fun z => ?_]
    constructor
    · intro hz
      rcases List.mem_cons.1 ((h z).1 (List.mem_cons_of_mem _ hz)) with e | k
      · have := g1.1 z hz
        omega
      · exact k
    · intro hz
      rcases List.mem_cons.1 ((h z).2 (List.mem_cons_of_mem _ hz)) with e | k
      · have := g2.1 z hz
        omega
      · exact k
theorem compact_spec {zs : List Int} (hz : zs.Pairwise (· ≤ ·)) : ∀ m, m ≤ zs.length → Rise (compactUpTo zs.toArray m) ∧ (∀ y, y ∈ compactUpTo zs.toArray m ↔ y ∈ zs.take m)
  | 0, _ => ⟨by simp [compactUpTo, Rise], by simp [compactUpTo]⟩
  | m + 1, hm => by
    obtain ⟨h1, h2⟩ := compact_spec hz m (by omega)
    have hlt : m < zs.length := by omega
    have hget : zs.toArray[m]! = zs[m] := by simp [hlt]
    rw [compactUpTo_succ]
    have htk : zs.take (m + 1) = zs.take m ++ [zs[m]] := List.take_succ_eq_append_getElem hlt
    by_cases hk : keeps zs.toArray m = true
    · rw [if_pos hk, hget]
      refine ⟨?_, fun y => by rw [htk, List.mem_append, List.mem_append, h2]⟩
      unfold Rise at h1 ⊢
      rw [List.pairwise_append]
      refine ⟨h1, List.pairwise_singleton _ _, fun x hx y hy => ?_⟩
      rw [List.mem_singleton.1 hy]
      have hx2 := (h2 x).1 hx
      obtain ⟨j, hj, hjx⟩ := List.getElem_of_mem hx2
      have hjm : j < m := by rw [List.length_take] at hj; omega
      have ejx : zs[j] = x := by rw [← hjx, List.getElem_take]
      have h0 : m ≠ 0 := by omega
      have hprev : zs.toArray[m - 1]! = zs[m - 1] := by
        have : m - 1 < zs.length := by omega
        simp [this]
      have hne : zs[m] ≠ zs[m - 1] := by
        intro e
        have := keeps_neg (d := zs.toArray) (m := m) (by omega) (by rw [hget, hprev, e])
        rw [this] at hk
        cases hk
      have hle1 : zs[j] ≤ zs[m - 1] := by
        rcases Nat.lt_or_ge j (m - 1) with g | g
        · exact List.pairwise_iff_getElem.1 hz j (m - 1) (by omega) (by omega) g
        · have : j = m - 1 := by omega
          subst this
          exact Int.le_refl _
      have hle2 : zs[m - 1] ≤ zs[m] := List.pairwise_iff_getElem.1 hz (m - 1) m (by omega) hlt (by omega)
      omega
    · rw [if_neg hk, List.append_nil]
      refine ⟨h1, fun y => ?_⟩
      rw [h2, htk, List.mem_append]
      constructor
      · exact .inl
      · rintro (h | h)
        · exact h
        · rw [List.mem_singleton.1 h]
          have h0 : m ≠ 0 := by
            intro e
            subst e
            exact hk (keeps_lt_one _ 0 (by omega))
          have hprev : zs.toArray[m - 1]! = zs[m - 1] := by
            have : m - 1 < zs.length := by omega
            simp [this]
          have e : zs[m] = zs[m - 1] := by
            by_cases e : zs[m] = zs[m - 1]
            · exact e
            · exact absurd (keeps_pos (d := zs.toArray) (m := m) (by rw [hget, hprev]; exact e)) hk
          rw [e]
          exact List.mem_iff_getElem.2 ⟨m - 1, by rw [List.length_take]; omega, by rw [List.getElem_take]⟩
/-- Sorted, each once. -/
theorem compact_srt (xs : List Int) : compact (srt xs) = xs.foldl tPut [] := by
  have h := compact_spec (srt_le xs) (srt xs).length (Nat.le_refl _)
  refine rise_ext h.1 (fold_rise _ List.Pairwise.nil) fun y => ?_
  have h2 := h.2 y
  rw [List.take_length, srt_mem] at h2
  unfold compact
  rw [h2, fold_mem]
  simp
end Go.Proofs.YtmedaimndaaiiaaGreat

/- The landed txn's Touches: whom acts name, sorted, each once. Condition: no more than 2^20 acts. -/
namespace Go.Proofs.YtmedaimndaaiiaaGreat
open Go.RowKit Go.Deep
open Go.Sort (putRow grow mapBlock Holds holds_grow holds_ahead holds_putRow)

theorem below_putI {B : Nat} (w : World) (blk n : Nat) (d : Array Int) (os : Array Obj) (hB : B ≤ blk) (hw : B ≤ w.heap.size) : Below B w (grow (putRow (Value.int .i64) (Go.Sort.ahead w n) blk 0 d) os) := by
  unfold putRow mapBlock grow Go.Sort.ahead
  refine ⟨rfl, rfl, rfl, by simp, fun k hk => ?_⟩
  show ((w.heap.modify blk _) ++ os)[k]? = w.heap[k]?
  rw [Array.getElem?_append_left (by simp; omega), Array.getElem?_modify, if_neg (by omega)]
theorem size_putI (w : World) (blk n : Nat) (d : Array Int) (os : Array Obj) : w.heap.size ≤ (grow (putRow (Value.int .i64) (Go.Sort.ahead w n) blk 0 d) os).heap.size := by
  unfold putRow mapBlock grow Go.Sort.ahead
  simp
/-- Numbers in a row that the call owns, if there are any. -/
def RowK (w : World) (B : Nat) (A : Option Addr) (c : Nat) (l : List Int) : Prop := l.length ≤ c ∧ (l = [] ∨ ∃ g, A = some ⟨g, 0, none⟩ ∧ B ≤ g ∧ g < w.heap.size ∧ Holds (Value.int .i64) w g 0 l.toArray)
theorem RowK.of_own {w : World} {B c : Nat} {A : Option Addr} {l : List Int} (h : OwnK w B A c l) : RowK w B A c l := by
  refine ⟨h.cap, ?_⟩
  have hcells := h.at_
  rcases h.2 with ⟨_, h2⟩ | ⟨g, cap, cur, hv, hBg, hh, h3, h4, h5⟩
  · exact .inl (List.length_eq_zero_iff.1 h2)
  · injection hv with hv1 hv2 hv3
    subst hv1
    have hlt : g < w.heap.size := by
      rcases Nat.lt_or_ge g w.heap.size with h | h
      · exact h
      · rw [Array.getElem?_eq_none h] at hh; cases hh
    have hrow : w.rowIs g 3 cur.size (fun i => cur.getD i undef) := ⟨cur, hh, rfl, fun i hi => by simp [hi]⟩
    refine .inr ⟨g, rfl, hBg, hlt, fun j hj => ⟨?_, hrow.frozen _⟩⟩
    have hj' : j < l.length := by simpa using hj
    rw [hcells.get hj']
    simp [hj']
theorem RowK.nums {w : World} {A : Option Addr} {l m : List Int} (g : Nat) (hg : g < w.heap.size) (hA : A = some ⟨g, 0, none⟩) (h : ∀ j, j < l.length → w.cell? ⟨g, 0 + j, none⟩ = some (.int .i64 (l ++ m)[j]!)) : NumsAt w A l := by
  refine .inr ⟨g, 0, hA, hg, fun j v hj => ?_⟩
  obtain ⟨i, f, hi, hf, rfl, hv⟩ := flat_lt intCells_length (by omega) hj
  have hf0 : f = 0 := by omega
  subst hf0
  rw [Nat.mul_one, Nat.add_zero]
  rw [h i hi]
  simp [intCells] at hv
  rw [← hv]
  have : i < (l ++ m).length := by rw [List.length_append]; omega
  rw [List.getElem!_eq_getElem?_getD, List.getElem?_eq_getElem this, List.getElem_append_left hi]
  rfl
theorem sortInts_any {B : Nat} (A : Option Addr) (c : Nat) (l : List Int) (hl : l.length ≤ 1099511627776) (w : World) (hB : B ≤ w.heap.size) (h : RowK w B A c l) :
    Calls Tryz.prog 45 #[.slice A l.length c] w fun e w' => e = .returned (.tuple #[]) ∧ RowK w' B A c (srt l) ∧ Below B w w' := by
  obtain ⟨hc, h⟩ := h
  rcases h with rfl | ⟨g, rfl, hBg, hg, hH⟩
  · refine (Tryz.slices_Sort_int_none A c w).mono ?_
    rintro e w' ⟨rfl, rfl⟩
    exact ⟨rfl, ⟨by rw [srt_length]; exact hc, .inl (List.eq_nil_of_length_eq_zero (by rw [srt_length]; rfl))⟩, Below.refl _ _⟩
  · refine (Tryz.slices_Sort_int g 0 c l w hH hg (by omega)).mono ?_
    rintro e w' ⟨rfl, n, os, rfl⟩
    refine ⟨rfl, ⟨by rw [srt_length]; exact hc, .inr ⟨g, rfl, hBg, Nat.lt_of_lt_of_le hg (size_putI w g n _ os), ?_⟩⟩, below_putI w g n _ os hBg hB⟩
    have h1 := holds_putRow (Value.int .i64) (Go.Sort.ahead w n) g 0 l.toArray (srt l).toArray (holds_ahead (Value.int .i64) w n g 0 l.toArray hH) (by simp [srt_length])
    refine holds_grow (Value.int .i64) _ os g 0 _ ?_ h1
    have := size_putI w g n (srt l).toArray #[]
    have e0 : ∀ x : World, grow x #[] = x := fun x => by unfold grow; simp
    rw [e0] at this
    exact Nat.lt_of_lt_of_le hg this
theorem compactInts_any {B : Nat} (A : Option Addr) (c : Nat) (l : List Int) (hl : l.length ≤ 1099511627776) (w : World) (hB : B ≤ w.heap.size) (h : RowK w B A c l) :
    Calls Tryz.prog 46 #[.slice A l.length c] w fun e w' => e = .returned (.slice A (Lib.compact l).length c) ∧ NumsAt w' A (Lib.compact l) ∧ Below B w w' := by
  obtain ⟨hc, h⟩ := h
  rcases h with rfl | ⟨g, rfl, hBg, hg, hH⟩
  · refine (Tryz.slices_Compact_int_empty A c w).mono ?_
    rintro e w' ⟨rfl, rfl⟩
    exact ⟨rfl, .inl rfl, Below.refl _ _⟩
  · refine (Tryz.slices_Compact_int g 0 c l w hH (by omega) hc).mono ?_
    rintro e w' ⟨rfl, n, rfl⟩
    have hle : (Lib.compact l).length ≤ l.length := by
      unfold Lib.compact Lib.compactUpTo
      rw [List.length_map]
      exact Nat.le_trans (List.length_filter_le _ _) (by simp)
    have hb := below_putI w g n (Lib.compact l ++ List.replicate (l.length - (Lib.compact l).length) 0).toArray #[] hBg hB
    have hs := size_putI w g n (Lib.compact l ++ List.replicate (l.length - (Lib.compact l).length) 0).toArray #[]
    have e0 : ∀ x : World, grow x #[] = x := fun x => by unfold grow; simp
    rw [e0] at hb hs
    refine ⟨rfl, ?_, hb⟩
    have h1 := holds_putRow (Value.int .i64) (Go.Sort.ahead w n) g 0 l.toArray (Lib.compact l ++ List.replicate (l.length - (Lib.compact l).length) 0).toArray (holds_ahead (Value.int .i64) w n g 0 l.toArray hH) (by simp; omega)
    refine RowK.nums (m := List.replicate (l.length - (Lib.compact l).length) 0) g (by omega) rfl fun j hj => ?_
    have h2 := (h1 j (by simp; omega)).1
    rw [h2]
    simp

set_option maxRecDepth 100000 in
theorem nums_keep {w : World} {B c0 : Nat} {A0 : Option Addr} {out : List Int} (hown : OwnK w B A0 c0 out) (hB : B ≤ w.heap.size) {ad : Addr} {m : List Int} (c : Nat) (hA : NumsAt w (some ad) m) (hlen : out.length + m.length ≤ 1099511627776) (ty : TypeId) :
    ∃ A' c' w', (Builtin.append_ #[35, 35] ty #[.slice A0 out.length c0, .slice (some ad) m.length c]).run Tryz.prog w = .ok (.slice A' (out ++ m).length c') w' ∧ OwnK w' B A' c' (out ++ m) ∧ Below B w w' ∧ ∀ (g : Nat) (t : TypeId) (n : Nat) (f : Nat → Value), t ≠ 3 → w.rowIs g t n f → w'.rowIs g t n f := by
  obtain ⟨i0, hi0, hz0, hz1, hz2⟩ := info_parts num_inf
  obtain ⟨v', w', hr, h2, h3, _⟩ := run_append_own_wide (P := Tryz.prog) w B 35 ty 3 i0 (.int .i64 0) 1 8 Tryz.underlying35 hi0 hz0 hz1 hz2 rfl (by omega)
    _ out.length (out.flatMap intCells) hown ad m.length c (m.flatMap intCells) (flat_length intCells 1 intCells_length m) (fun j u hu => by
      rcases hA with h0 | ⟨b, off, e, _, hc⟩
      · rw [h0] at hu; cases hu
      · injection e with e
        subst e
        rw [Go.WideShapes.add_plain]
        exact hc j u hu) (num_one m) (by simp only [maxLen]; omega) (by omega) hB
  have e : out.flatMap intCells ++ m.flatMap intCells = (out ++ m).flatMap intCells := List.flatMap_append.symm
  rw [e, ← List.length_append] at h2
  obtain ⟨A', c', rfl⟩ := own_slice h2
  refine ⟨A', c', w', hr, h2, (Below.refl B w).grown h3 hB (fun k hk => (hown.lt k hk).1), fun g t n f ht hrw => ?_⟩
  refine hrw.of_block (h3.block g hrw.lt fun e => ?_)
  rcases hown.2 with ⟨h0, _⟩ | ⟨g2, cap, cur, h0, _, hh, _⟩
  · injection h0 with h0
    subst h0
    simp [Value.ownBlock] at e
  · injection h0 with h0
    subst h0
    simp [Value.ownBlock] at e
    subst e
    obtain ⟨c1, hc1, _⟩ := hrw
    rw [hh] at hc1
    injection hc1 with hc1
    injection hc1 with _ hc1
    exact ht hc1.symm
set_option maxRecDepth 100000 in
theorem wpList_nums_keep {w : World} {ops : Array Oper} {rest : List Oper} {o : Oper} {a : Act} {Q : Exit → Act → World → Prop} (hgd : o.guard = none) (s x : Operand)
    (ho : o.op = .call { callee := .builtin .append, args := #[s, x], argTypes := #[35, 35] })
    {B c0 : Nat} {A0 : Option Addr} {out : List Int} (hown : OwnK w B A0 c0 out) (hB : B ≤ w.heap.size) {ad : Addr} {m : List Int} (c : Nat) (hA : NumsAt w (some ad) m) (hlen : out.length + m.length ≤ 1099511627776)
    (hs : a.eval s = .slice A0 out.length c0) (hx : a.eval x = .slice (some ad) m.length c)
    (h : ∀ A' c' w', OwnK w' B A' c' (out ++ m) → Below B w w' → (∀ (g : Nat) (t : TypeId) (n : Nat) (f : Nat → Value), t ≠ 3 → w.rowIs g t n f → w'.rowIs g t n f) → wpList Tryz.prog ops Q rest (a.put o.dst (.slice A' (out ++ m).length c')) w') : wpList Tryz.prog ops Q (o :: rest) a w := by
  refine wpList_plain hgd fun K hK => ?_
  obtain ⟨A', c', w', hrun, h1, h2, h3⟩ := nums_keep hown hB c hA hlen o.type
  unfold Oper.wp execOp
  simp only [ho, resolve, invoke, builtin, Sem.run_bind, Sem.run_pure, Result.andThen_ok, List.map_toArray, List.map_cons, List.map_nil, hs, hx, hrun]
  exact hK _ _ (h A' c' w' h1 h2 h3)

theorem ids_take {l : List ActV} {k : Nat} (hk : k < l.length) : (l.take (k + 1)).flatMap aIds = (l.take k).flatMap aIds ++ aIds l[k] := by
  rw [List.take_succ_eq_append_getElem hk, List.flatMap_append]
  simp
theorem ids_two (l : List ActV) : (l.flatMap aIds).length ≤ 2 * l.length := by
  induction l with
  | nil => simp
  | cons a l ih =>
    rw [List.flatMap_cons, List.length_append, List.length_cons]
    have := aIds_len a
    omega
set_option maxHeartbeats 4000000 in
set_option maxRecDepth 100000 in
theorem txnTouches_any (A : Option Addr) (c : Nat) (l : List ActV) (hl : l.length ≤ 1048576) (w : World) (hA : ActsAt w A l) :
    Calls Tryz.prog 17 #[.slice A l.length c] w fun e w' => (∃ A' c', e = .returned (.slice A' (tch l).length c') ∧ NumsAt w' A' (tch l)) ∧ Below w.heap.size w w' := by
  have HA := Lib.hid hA; clear hA
  obtain ⟨T, HT⟩ : ∃ T, Hid (tch l = T) := ⟨_, Lib.hid rfl⟩
  rw [HT.out]
  have HIL : Hid (∀ k, ((l.take k).flatMap aIds).length ≤ 2097152) := Lib.hid (fun k => by
    have h1 := ids_two (l.take k)
    have h2 : (l.take k).length ≤ l.length := by rw [List.length_take]; omega
    omega)
  go_enter Tryz.func17, Tryz.ntmps17
  go_wp2
  go_loopw [3, 5, 8] (fun s3 s5 i wr => ∃ (k : Nat) (A0 : Option Addr) (c0 : Nat), k ≤ l.length ∧ s3 = .slice A0 ((l.take k).flatMap aIds).length c0 ∧ s5 = s5 ∧ i = .int .i64 (k : Int) ∧ Hid (OwnK wr w.heap.size A0 c0 ((l.take k).flatMap aIds)) ∧ Hid (Below w.heap.size w wr)) (fun _ _ i _ => l.length - (intOf i).toNat)
  case atStart => exact ⟨0, none, 0, Nat.zero_le _, rfl, rfl, rfl, Lib.hid (OwnK.nil _ _), Lib.hid (Below.refl _ _)⟩
  case round =>
    obtain ⟨k, A0, c0, hk, rfl, _, rfl, HO, HBEL⟩ := hrel
    obtain ⟨wo, hwo⟩ : ∃ x, x = wr := ⟨wr, rfl⟩
    subst hwo
    by_cases hlt : k < l.length
    · obtain ⟨b, off, rfl, _⟩ := HA.out.form (by omega)
      have hltI : (k : Int) < (l.length : Int) := by omega
      obtain ⟨z0, z1, z2, z3, z4, z5⟩ := (HA.out.below HBEL.out).at_ hlt
      have HIT := Lib.hid (ids_take hlt)
      have HIN : Hid (((l.take k).flatMap aIds).length ≤ 2097152) := Lib.hid (HIL.out k)
      have GT := Lib.hid (fun w => standing_any l[k] w)
      generalize (l.take k).flatMap aIds = P at HO HIT HIN ⊢
      generalize l[k] = a at z0 z1 z2 z3 z4 z5 HIT GT
      obtain ⟨st, HST⟩ : ∃ x, Hid (standB a = x) := ⟨_, Lib.hid rfl⟩
      have HYES : Hid (st = true → a.parent ≠ 0 → aIds a = [a.id, a.parent]) := Lib.hid (fun h g => by
        rw [← HST.out] at h
        rw [aIds, if_pos ⟨of_decide_eq_true h, g⟩])
      have HNO : Hid (st = false ∨ a.parent = 0 → aIds a = [a.id]) := Lib.hid (fun h => by
        rw [aIds, if_neg]
        rintro ⟨g1, g2⟩
        rcases h with h | h
        · rw [← HST.out, standB, decide_eq_true g1] at h; cases h
        · exact g2 h)
      rw [HST.out] at GT
      clear HST
      unfold actCells at GT
      obtain ⟨ak, ai, ap, an, ad, aA, aC, ao⟩ := a
      simp only at z0 z1 z2 z3 z4 z5 GT HYES HNO
      have HREC := Lib.hid (six_new wo 25 (.int .i64 ak) (.int .i64 ai) (.int .i64 ap) (.string (bstr an)) (.bool ad) (.slice aA ao.length aC))
      have HBA : Hid (Below w.heap.size w (wo.alloc (.cells #[.int .i64 ak, .int .i64 ai, .int .i64 ap, .string (bstr an), .bool ad, .slice aA ao.length aC] 25))) := Lib.hid (HBEL.out.alloc HBEL.out.size _)
      have HOA : Hid (OwnK (wo.alloc (.cells #[.int .i64 ak, .int .i64 ai, .int .i64 ap, .string (bstr an), .bool ad, .slice aA ao.length aC] 25)) w.heap.size A0 c0 P) := Lib.hid (HO.out.alloc _)
      go_wp2_with (at_builtin
                   refine wpList_nums_keep rfl (.tmp 12) (.tmp 15) rfl (B := w.heap.size) (out := P) (m := [ai]) (HOA.out.alloc (.cells (intCells ai).toArray 3)) (by have := HBA.out.size; simp at this ⊢; omega) 1 (num_lit (wo.alloc (.cells #[.int .i64 ak, .int .i64 ai, .int .i64 ap, .string (bstr an), .bool ad, .slice aA ao.length aC] 25)) ai _ (by simp)) (by have := HIN.out; simp; omega) rfl rfl ?_
                   intro A5 c5 w5 hown hbel hkeep
                   have HR5 := Lib.hid (hkeep _ _ _ _ (by decide) (HREC.out.alloc (Obj.cells (intCells ai).toArray 3)))
                   have HB5 := Lib.hid ((HBA.out.alloc HBA.out.size (.cells (intCells ai).toArray 3)).trans hbel)
                   have HO5 := Lib.hid hown
                   obtain ⟨y0, y1, y2, y3, y4, y5⟩ := six_cells HR5.out
                   clear hown hbel hkeep z0 z1 z2 z3 z4 z5)
      refine (GT.out _).mono ?_
      rintro e w6 ⟨rfl, hb6⟩
      have HR6 := Lib.hid (HR5.out.of_block (hb6.block _ HR5.out.lt))
      have HB6 := Lib.hid (HB5.out.trans (hb6.mono HB5.out.size))
      have HO6 := Lib.hid (HO5.out.below hb6)
      have x2 := (six_cells HR6.out).2.2.1
      clear hb6 y0 y1 y2 y3 y4 y5
      cases st with
      | false =>
        have HE := Lib.hid (HNO.out (.inl rfl))
        go_wp2
        go_roundw
        case rel => exact ⟨k + 1, A5, c5, by omega, by rw [HIT.out, HE.out, List.length_append]; rfl, trivial, by go_num, by rw [HIT.out, HE.out]; exact HO6, HB6⟩
        case measure => simp [intOf]; omega
      | true =>
        by_cases hp : ap = 0
        · have HE := Lib.hid (HNO.out (.inr hp))
          have hpn : (ap != 0) = false := by rw [hp]; rfl
          clear hp
          go_wp2
          go_roundw
          case rel => exact ⟨k + 1, A5, c5, by omega, by rw [HIT.out, HE.out, List.length_append]; rfl, trivial, by go_num, by rw [HIT.out, HE.out]; exact HO6, HB6⟩
          case measure => simp [intOf]; omega
        · have HE := Lib.hid (HYES.out rfl hp)
          have hpn : (ap != 0) = true := bne_iff_ne.2 hp
          clear hp
          have HO7 := Lib.hid (HO6.out.alloc (.cells (intCells ap).toArray 3))
          have HB7 := Lib.hid (HB6.out.alloc HB6.out.size (.cells (intCells ap).toArray 3))
          go_wp2_with (at_builtin
                       refine wpList_nums_keep rfl (.tmp 24) (.tmp 27) rfl (B := w.heap.size) (out := P ++ [ai]) (m := [ap]) HO7.out (by have := HB7.out.size; simp at this ⊢; omega) 1 (num_lit w6 ap _ rfl) (by have := HIN.out; simp; omega) (Eq.trans (rfl : _ = Value.slice A5 (P.length + 1) c5) (by rw [List.length_append]; rfl)) rfl ?_
                       intro A8 c8 w8 hown hbel _
                       have HB8 := Lib.hid (HB7.out.trans hbel)
                       have HO8 := Lib.hid hown
                       clear hown hbel)
          go_roundw
          case rel => exact ⟨k + 1, A8, c8, by omega, by rw [HIT.out, HE.out, List.length_append]; rfl, trivial, by go_num, by rw [HIT.out, HE.out]; (have := HO8.out; rw [List.append_assoc] at this; exact Lib.hid this), HB8⟩
          case measure => simp [intOf]; omega
    · obtain rfl : k = l.length := by omega
      have HL0 : Hid ((l.flatMap aIds).length ≤ 2097152) := Lib.hid (by have := HIL.out l.length; rwa [List.take_length] at this)
      rw [List.take_length] at HO ⊢
      have HC : Hid (Lib.compact (srt (l.flatMap aIds)) = T) := Lib.hid (by rw [← HT.out]; exact compact_srt _)
      generalize l.flatMap aIds = P at HO HL0 HC ⊢
      have GS := Lib.hid (sortInts_any A0 c0 P (by have := HL0.out; omega) wo HBEL.out.size (RowK.of_own HO.out))
      have HSL := Lib.hid (srt_length P)
      go_wp2_with fail
      refine GS.out.mono ?_
      rintro e w6 ⟨rfl, hrow, hb6⟩
      have HB6 := Lib.hid (HBEL.out.trans hb6)
      have GC := Lib.hid (compactInts_any A0 c0 (srt P) (by rw [HSL.out]; have := HL0.out; omega) w6 HB6.out.size hrow)
      rw [HSL.out, HC.out] at GC
      clear hrow hb6
      go_wp2_with fail
      refine GC.out.mono ?_
      rintro e w7 ⟨rfl, hn, hb7⟩
      have HB7 := Lib.hid (HB6.out.trans hb7)
      have HN := Lib.hid hn
      clear hn hb7
      go_wp2
      go_ret
      exact ⟨⟨A0, c0, rfl, HN.out⟩, HB7.out⟩
end Go.Proofs.YtmedaimndaaiiaaGreat
