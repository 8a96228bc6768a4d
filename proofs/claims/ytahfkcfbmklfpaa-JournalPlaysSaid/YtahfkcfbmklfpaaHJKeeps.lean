/- JournalKeeps holds: what was appended is kept as it was, whatever was done with the bytes in between, and what was told may be changed: whatever bytes and lists the law is called with, it answers true and changes nothing. No condition. (Merged of 6 texts.) -/
import Derived.Test.YtahfkcfbmklfpaaRound
import Derived.Test.YtahfkcfbmklfpaaLists
import Derived.Test.YtahfkcfbmklfpaaHJAwake
import Derived.ChangeMaps5
/- The contract of alike.Sum, which the statements lean on. Condition: its numbers are not negative. -/
namespace Go.Proofs.Ytahfkcfbmklfpaa
open Go.RowKit Go.Deep

/-! ### Sums that are held at a limit -/
def capSum : Nat → List Nat → Nat
  | n, [] => n
  | n, x :: xs => if 1099511627776 < n + x then 1099511627776 else capSum (n + x) xs
theorem capSum_drop (n : Nat) (xs : List Nat) (k : Nat) (h : k < xs.length) : capSum n (xs.drop k) = if 1099511627776 < n + xs[k] then 1099511627776 else capSum (n + xs[k]) (xs.drop (k + 1)) := by
  rw [List.drop_eq_getElem_cons h]
  rfl
theorem ints_two (w : World) (t : TypeId) (a c : Nat) : ∀ j x : Nat, [a, c][j]? = some x → (w.alloc (.cells #[.int .i64 (a : Int), .int .i64 (c : Int)] t)).cell? ⟨w.heap.size, 0 + j, none⟩ = some (.int .i64 (x : Int)) := by
  intro j x hx
  rw [Nat.zero_add, cell_of_row _ _ _ _ t (0, 0) (heap_alloc_new w _)]
  match j, hx with
  | 0, hx => cases hx; rfl
  | 1, hx => cases hx; rfl
/-- The integers that lie at a place. -/
def NatsAt (w : World) (b off : Nat) (xs : List Nat) : Prop := ∀ j x : Nat, xs[j]? = some x → w.cell? ⟨b, off + j, none⟩ = some (.int .i64 (x : Int))
theorem NatsAt.drew {w : World} {b off : Nat} {xs : List Nat} (h : NatsAt w b off xs) : NatsAt w.drew b off xs := h

set_option maxRecDepth 100000 in
theorem alikeSum_row (n : Nat) (hn : n ≤ 9223372036854775807) (b off cap : Nat) (xs : List Nat) (hl : xs.length ≤ maxLen) (hx : ∀ x ∈ xs, x ≤ 9223372036854775807) (w : World) (hc : NatsAt w b off xs) :
    Calls Try.prog 43 #[.int .i64 (n : Int), .slice (some ⟨b, off, none⟩) xs.length cap] w fun e w' => e = .returned (.int .i64 ((capSum n xs : Nat) : Int)) ∧ w = w' := by
  unfold maxLen at hl
  have HC := Lib.hid hc; clear hc
  have HX := Lib.hid hx; clear hx
  have HN := Lib.hid hn; clear hn
  go_enter Try.func43, Try.ntmps43
  go_wp2
  go_loop [0, 5] (fun t i => ∃ k m : Nat, k ≤ xs.length ∧ i = .int .i64 k ∧ t = .int .i64 (m : Int) ∧ m ≤ 9223372036854775807 ∧ capSum m (xs.drop k) = capSum n xs) (fun _ i => xs.length - (intOf i).toNat)
  case atStart => exact ⟨0, n, Nat.zero_le _, rfl, rfl, HN.out, rfl⟩
  case round =>
    obtain ⟨k, m, hk, rfl, rfl, hm, he⟩ := hrel
    have HE := Lib.hid he; clear he
    by_cases hlt : k < xs.length
    · have hcell := HC.out k _ (List.getElem?_eq_getElem hlt)
      have hxk := HX.out _ (List.getElem_mem hlt)
      have hd := capSum_drop m xs k hlt
      rw [HE.out] at hd
      have HD := Lib.hid hd; clear hd
      obtain ⟨x, HXX⟩ : ∃ x, Hid (xs[k] = x) := ⟨xs[k], Lib.hid rfl⟩
      rw [HXX.out] at hcell hxk HD
      by_cases hb : 1099511627776 < m + x
      · have HR : Hid (capSum n xs = 1099511627776) := by show capSum n xs = 1099511627776; rw [HD.out, if_pos hb]
        by_cases h1 : 1099511627776 < m
        · go_wp2
          go_ret
          exact ⟨by rw [HR.out]; rfl, rfl⟩
        · have h1' : m ≤ 1099511627776 := by omega
          go_wp2
          go_ret
          exact ⟨by rw [HR.out]; rfl, rfl⟩
      · have h1' : m ≤ 1099511627776 := by omega
        have HR : Hid (capSum (m + x) (xs.drop (k + 1)) = capSum n xs) := by show capSum (m + x) (xs.drop (k + 1)) = capSum n xs; rw [HD.out, if_neg hb]
        go_wp2
        go_round
        case rel => exact ⟨k + 1, m + x, by omega, by go_num, by go_num, by omega, HR.out⟩
        case measure => simp [intOf]; omega
    · have HR : Hid (m = capSum n xs) := by
        show m = capSum n xs
        rw [← HE.out, List.drop_eq_nil_of_le (by omega)]
        rfl
      go_wp2
      go_ret
      exact ⟨by rw [← HR.out]; rfl, rfl⟩
end Go.Proofs.Ytahfkcfbmklfpaa

/- The contract of alike.Bytes: called with any slice of slices of bytes it answers their weight, held at a limit; what was there stays as it was. Condition: the limit is no more than 2^62. -/
namespace Go.Proofs.Ytahfkcfbmklfpaa
open Go.RowKit Go.Deep

/-- alike.Bytes. -/
def weight (limit : Nat) : Nat → List (Option Addr × Nat × List Nat) → Nat
  | n, [] => n
  | n, x :: L => if n ≤ limit then weight limit (capSum n [x.2.2.length, 1]) L else n
theorem capSum_le (n : Nat) (hn : n ≤ 1099511627776) (xs : List Nat) : capSum n xs ≤ 1099511627776 := by
  induction xs generalizing n with
  | nil => exact hn
  | cons x xs ih =>
    rw [capSum]
    split
    · exact Nat.le_refl _
    · exact ih _ (by omega)
theorem capSum_two (n a : Nat) (h : capSum n [a, 1] < 1099511627776) : capSum n [a, 1] = n + a + 1 := by
  rw [capSum] at h ⊢
  split at h
  · omega
  · rename_i h1
    rw [if_neg h1]
    rw [capSum] at h ⊢
    split at h
    · omega
    · rename_i h2
      rw [if_neg h2]
      rfl
theorem flat_cons (x : Option Addr × Nat × List Nat) (L : List (Option Addr × Nat × List Nat)) : flat (x :: L) = x.2.2 ++ flat L := by simp [flat]
theorem weight_spec (limit : Nat) (hl : limit < 1099511627776) (L : List (Option Addr × Nat × List Nat)) : ∀ n, weight limit n L ≤ limit → weight limit n L = n + (flat L).length + L.length := by
  induction L with
  | nil => intro n _; simp [weight, flat_nil]
  | cons x L ih =>
    intro n h
    rw [weight] at h ⊢
    split at h
    · rename_i hn
      rw [if_pos hn]
      have h1 := ih _ h
      have h2 := capSum_two n x.2.2.length (by omega)
      rw [h1, h2, flat_cons, List.length_append, List.length_cons]
      omega
    · omega
theorem weight_drop (limit n : Nat) (L : List (Option Addr × Nat × List Nat)) (k : Nat) (h : k < L.length) : weight limit n (L.drop k) = if n ≤ limit then weight limit (capSum n [L[k].2.2.length, 1]) (L.drop (k + 1)) else n := by
  rw [List.drop_eq_getElem_cons h]
  rfl

set_option maxRecDepth 100000 in
theorem alikeBytes_row (limit : Nat) (b off cap : Nat) (L : List (Option Addr × Nat × List Nat)) (hl : L.length ≤ maxLen) (hf : Fine L) (w : World) (hc : RowsAt w (some ⟨b, off, none⟩) L) :
    Calls Try.prog 22 #[.slice (some ⟨b, off, none⟩) L.length cap, .int .i64 (limit : Int)] w fun e w' => e = .returned (.int .i64 ((weight limit 0 L : Nat) : Int)) ∧ Below w.heap.size w w' := by
  unfold maxLen at hl
  have HC := Lib.hid hc; clear hc
  have HF := Lib.hid hf; clear hf
  go_enter Try.func22, Try.ntmps22
  go_wp2
  go_loopw [5, 6] (fun t i wr => ∃ k m : Nat, k ≤ L.length ∧ i = .int .i64 k ∧ t = .int .i64 (m : Int) ∧ m ≤ 1099511627776 ∧ weight limit m (L.drop k) = weight limit 0 L ∧ Below w.heap.size w wr) (fun _ i _ => L.length - (intOf i).toNat)
  case atStart => exact ⟨0, 0, Nat.zero_le _, rfl, rfl, by omega, rfl, Below.refl _ _⟩
  case round =>
    obtain ⟨k, m, hk, rfl, rfl, hm, he, hbel⟩ := hrel
    have HE := Lib.hid he; clear he
    have HB := Lib.hid hbel; clear hbel
    by_cases hlt : k < L.length
    · have HW := Lib.hid (HE.out ▸ weight_drop limit m L k hlt : weight limit 0 L = _)
      by_cases hml : m ≤ limit
      · have hcell := ((HC.out.below HB.out).cell hlt).1
        have hxl := (HF.out _ (List.getElem_mem hlt)).1
        unfold maxLen at hxl
        obtain ⟨a, HA⟩ : ∃ a, Hid (L[k].2.2.length = a) := ⟨L[k].2.2.length, Lib.hid rfl⟩
        rw [HA.out] at hcell hxl HW
        have HR : Hid (weight limit (capSum m [a, 1]) (L.drop (k + 1)) = weight limit 0 L) := by show _ = _; rw [HW.out, if_pos hml]
        obtain ⟨r, HRR⟩ : ∃ r, Hid (capSum m [a, 1] = r) := ⟨_, rfl⟩
        have hr : r ≤ 1099511627776 := by rw [← HRR.out]; exact capSum_le m hm _
        rw [HRR.out] at HR
        have HS := Lib.hid (alikeSum_row m (by omega) wr.heap.size 0 2 [a, 1] (by simp [maxLen]) (by simp; omega) _ (ints_two wr 3 a 1))
        rw [HRR.out] at HS
        clear HW HRR
        go_wp2_with (go_at_call 43; refine HS.out.mono ?_; rintro e w' ⟨rfl, rfl⟩)
        go_roundw
        case rel => exact ⟨k + 1, r, by omega, by go_num, rfl, hr, HR.out, HB.out.alloc HB.out.size _⟩
        case measure => simp [intOf]; omega
      · have HR : Hid (m = weight limit 0 L) := by show _ = _; rw [HW.out, if_neg hml]
        have hml' : limit < m := by omega
        go_wp2
        go_ret
        exact ⟨by rw [← HR.out]; rfl, HB.out⟩
    · have HR : Hid (m = weight limit 0 L) := by
        show m = weight limit 0 L
        rw [← HE.out, List.drop_eq_nil_of_le (by omega)]
        rfl
      go_wp2
      go_ret
      exact ⟨by rw [← HR.out]; rfl, HB.out⟩
theorem alikeBytes_nil (limit : Nat) (A : Option Addr) (cap : Nat) (w : World) :
    Calls Try.prog 22 #[.slice A 0 cap, .int .i64 (limit : Int)] w fun e w' => e = .returned (.int .i64 ((weight limit 0 [] : Nat) : Int)) ∧ Below w.heap.size w w' := by
  go_enter Try.func22, Try.ntmps22
  go_wp2
  refine wp_loop_rounds 1 ?_
  rw [rounds_succ]
  go_wp2
  go_ret
  exact ⟨rfl, Below.refl _ _⟩
theorem alikeBytes_at {A : Option Addr} {L : List (Option Addr × Nat × List Nat)} (limit : Nat) (cap : Nat) (hl : L.length ≤ maxLen) (hf : Fine L) (w : World) (h : RowsAt w A L) :
    Calls Try.prog 22 #[.slice A L.length cap, .int .i64 (limit : Int)] w fun e w' => e = .returned (.int .i64 ((weight limit 0 L : Nat) : Int)) ∧ Below w.heap.size w w' := by
  cases L with
  | nil => exact alikeBytes_nil limit A cap w
  | cons c L =>
    obtain ⟨b, off, rfl, _⟩ := h.form (by simp)
    exact alikeBytes_row limit b off cap _ hl hf w h
end Go.Proofs.Ytahfkcfbmklfpaa

/- Records once more: each of the lists it answers lies in a row of its own, so that it may be written. Condition: as for Records. -/
namespace Go.Proofs.Ytahfkcfbmklfpaa
open Go.RowKit Go.Deep

/-- The slice of address A and room c reads as the list l of bytes; all of it lies in blocks of P, each in a row of its own, none in the block of the list itself. -/
def RowsO (P : Nat → Prop) (w : World) (A : Option Addr) (c : Nat) (l : List (List Nat)) : Prop :=
  ∃ L : List Row, L.map (fun x => x.2.2) = l ∧ w.ownsRow 0 31 1 (.slice A L.length c) L.length (L.map rowVal) ∧ (∀ a, A = some a → P a.block ∧ a.block < w.heap.size) ∧
    ∀ x ∈ L, w.ownsRow 0 5 1 (rowVal x) x.2.2.length (u8s x.2.2) ∧ ∀ a, x.1 = some a → P a.block ∧ a.block < w.heap.size ∧ ∀ y, A = some y → a.block ≠ y.block
theorem RowsO.below {P : Nat → Prop} {w w' : World} {A : Option Addr} {c : Nat} {l : List (List Nat)} (h : RowsO P w A c l) (hb : Below w.heap.size w w') : RowsO P w' A c l := by
  obtain ⟨L, h1, h2, h3, h4⟩ := h
  refine ⟨L, h1, own_kept h2 fun a ha => hb.block _ (h3 a ha).2, fun a ha => ⟨(h3 a ha).1, Nat.lt_of_lt_of_le (h3 a ha).2 hb.size⟩, fun x hx => ?_⟩
  obtain ⟨h5, h6⟩ := h4 x hx
  exact ⟨own_kept h5 fun a ha => hb.block _ (h6 a ha).2.1, fun a ha => ⟨(h6 a ha).1, Nat.lt_of_lt_of_le (h6 a ha).2.1 hb.size, (h6 a ha).2.2⟩⟩
theorem RowsO.nil (P : Nat → Prop) (w : World) : RowsO P w none 0 [] := ⟨[], rfl, World.ownsRow_nil _ _ _ _, fun a h => (by cases h), fun x h => (by cases h)⟩
theorem RowsO.cell {P : Nat → Prop} {w : World} {A : Option Addr} {c : Nat} {l : List (List Nat)} (h : RowsO P w A c l) {i : Nat} (hi : i < l.length) : ∃ b x cx, A = some ⟨b, 0, none⟩ ∧ w.cell? ⟨b, i, none⟩ = some (.slice x (l[i]).length cx) ∧ w.ownsRow 0 5 1 (.slice x (l[i]).length cx) (l[i]).length (u8s l[i]) ∧ ∀ a, x = some a → P a.block ∧ a.block < w.heap.size := by
  obtain ⟨L, rfl, h2, h3, h4⟩ := h
  rw [List.length_map] at hi
  obtain ⟨g, cap, hv, _, _⟩ := h2.form (by omega)
  injection hv with hv1 _ hv3
  subst hv1
  subst hv3
  have hc := h2.cellAt i (by simpa using hi)
  have hx := h4 L[i] (List.getElem_mem hi)
  refine ⟨g, L[i].1, L[i].2.1, rfl, ?_, by simpa [rowVal] using hx.1, fun a ha => ⟨(hx.2 a ha).1, (hx.2 a ha).2.1⟩⟩
  rw [hc, List.getElem?_map, List.getElem?_eq_getElem hi]
  simp [rowVal]
theorem own_zero {w : World} {base : Nat} {e : TypeId} {size : Nat} {v : Value} {n : Nat} {xs : List Value} (h : w.ownsRow base e size v n xs) : w.ownsRow 0 e size v n xs := by
  refine ⟨h.1, ?_⟩
  rcases h.2 with h2 | ⟨g', cap, cur, hv, hg, h3⟩
  · exact .inl h2
  · exact .inr ⟨g', cap, cur, hv, Nat.zero_le _, h3⟩
/-- One more. -/
theorem run_rowsO_push {P : Nat → Prop} {w : World} {A : Option Addr} {c : Nat} {l : List (List Nat)} (h : RowsO P w A c l) (hl : l.length ≤ 1099511627776) (nA : Option Addr) (b : List Nat) (nc : Nat) (hat : w.ownsRow 0 5 1 (.slice nA b.length nc) b.length (u8s b))
    (hn : ∀ a, nA = some a → P a.block ∧ a.block < w.heap.size ∧ ∀ y, A = some y → a.block ≠ y.block) (hP : ∀ k, w.heap.size ≤ k → P k) (ty : TypeId) (n : Nat) (hnl : n = l.length) :
    ∃ A' c' w', (Builtin.append_ #[32, 32] ty #[.slice A n c, .slice (some ⟨w.heap.size, 0, none⟩) 1 1]).run Try.prog (w.alloc (.cells #[.slice nA b.length nc] 31)) = .ok (.slice A' (l ++ [b]).length c') w' ∧
      RowsO P w' A' c' (l ++ [b]) ∧ (Off (fun k => ∃ y, A = some y ∧ k = y.block) w w' ∧ w.heap.size < w'.heap.size) ∧ (∀ a, A' = some a → (∃ y, A = some y ∧ a.block = y.block) ∨ w.heap.size ≤ a.block) := by
  subst hnl
  obtain ⟨i0, hi0, hz0, hz1, hz2⟩ := info_parts slice_info
  obtain ⟨L, rfl, h2, h3, h4⟩ := h
  rw [List.length_map] at hl ⊢
  have hb : Below w.heap.size w (w.alloc (.cells #[.slice nA b.length nc] 31)) := (Below.refl _ _).alloc (Nat.le_refl _) _
  obtain ⟨v', w', hrun, ho, hg, _, hw⟩ := run_append_own_at (P := Try.prog) (w.alloc (.cells #[.slice nA b.length nc] 31)) 0 32 ty 31 i0 (.slice none 0 0) 1 24 Try.underlying32 hi0 hz0 hz1 hz2 rfl (by omega) (.slice A L.length c) L.length (L.map rowVal) (h2.alloc _) ⟨w.heap.size, 0, none⟩ 1 1 [.slice nA b.length nc]
    rfl (fun j u hu => by rw [Go.WideShapes.add_plain, Nat.zero_add, cell_of_row _ _ _ _ _ _ (heap_alloc_new w _)]; simpa using hu) (fun u hu => by rw [List.mem_singleton.1 hu]; rfl) (by simp only [maxLen]; omega) (by omega) (Nat.zero_le _)
  obtain ⟨A', c', rfl⟩ := own_slice ho
  have hoff : Off (fun k => ∃ y, A = some y ∧ k = y.block) w w' := by
    refine ⟨hg.os, hg.tape, hg.output, Nat.le_trans hb.size hg.size, fun k hk hne => ?_⟩
    rw [hg.block k (Nat.lt_of_lt_of_le hk hb.size) ?_]
    · exact hb.block k hk
    · intro e
      cases A with
      | none => simp [Value.ownBlock] at e
      | some y => simp [Value.ownBlock] at e; exact hne ⟨y, rfl, e⟩
  have hA' : ∀ a, A' = some a → (∃ y, A = some y ∧ a.block = y.block) ∨ w.heap.size ≤ a.block := by
    intro a ha
    subst ha
    rcases hw with hw | hw
    · cases A with
      | none => simp [Value.ownBlock] at hw
      | some y => simp [Value.ownBlock] at hw; exact .inl ⟨y, rfl, hw⟩
    · simp [Value.ownBlock] at hw
      exact .inr (by omega)
  have hnew : L.map rowVal ++ [.slice nA b.length nc] = (L ++ [((nA, nc, b) : Row)]).map rowVal := by simp [rowVal]
  rw [hnew] at ho
  refine ⟨A', c', w', by rw [hrun]; simp, ⟨L ++ [(nA, nc, b)], by simp, ?_, fun a ha => ?_, fun x hx => ?_⟩, ⟨hoff, Nat.lt_of_lt_of_le (by simp) hg.size⟩, hA'⟩
  · rw [List.length_append]
    exact ho
  · subst ha
    obtain ⟨_, hlt⟩ := ho.lt a.block rfl
    exact ⟨(hA' a rfl).elim (fun ⟨y, hy, e⟩ => by rw [e]; exact (h3 y hy).1) (hP _), hlt⟩
  · have key : w.ownsRow 0 5 1 (rowVal x) x.2.2.length (u8s x.2.2) ∧ ∀ a, x.1 = some a → P a.block ∧ a.block < w.heap.size ∧ ∀ y, A = some y → a.block ≠ y.block := by
      rcases List.mem_append.1 hx with hx | hx
      · exact h4 x hx
      · rw [List.mem_singleton.1 hx]
        exact ⟨hat, hn⟩
    refine ⟨own_kept key.1 fun a ha => hoff.block _ (key.2 a ha).2.1 fun ⟨y, hy, e⟩ => (key.2 a ha).2.2 y hy e, fun a ha => ⟨(key.2 a ha).1, Nat.lt_of_lt_of_le (key.2 a ha).2.1 hoff.size, fun y hy e => ?_⟩⟩
    rcases hA' y hy with ⟨z, hz, e2⟩ | h
    · exact (key.2 a ha).2.2 z hz (e.trans e2)
    · have := (key.2 a ha).2.1
      omega
theorem wp_rowsO_push {P : Nat → Prop} {w : World} {o : Oper} {a : Act} {K : Act → World → Prop} {Q : Exit → Act → World → Prop} (s x : Operand)
    (ho : o.op = .call { callee := .builtin .append, args := #[s, x], argTypes := #[32, 32] })
    (A : Option Addr) (c : Nat) (l : List (List Nat)) (h : RowsO P w A c l) (hl : l.length ≤ 1099511627776) (nA : Option Addr) (b : List Nat) (nc : Nat) (hat : w.ownsRow 0 5 1 (.slice nA b.length nc) b.length (u8s b))
    (hn : ∀ a, nA = some a → P a.block ∧ a.block < w.heap.size ∧ ∀ y, A = some y → a.block ≠ y.block) (hP : ∀ k, w.heap.size ≤ k → P k) (n : Nat) (hnl : n = l.length)
    (hs : a.eval s = .slice A n c) (hx : a.eval x = .slice (some ⟨w.heap.size, 0, none⟩) 1 1)
    (hK : ∀ A' c' w', RowsO P w' A' c' (l ++ [b]) → (Off (fun k => ∃ y, A = some y ∧ k = y.block) w w' ∧ w.heap.size < w'.heap.size) → (∀ a, A' = some a → (∃ y, A = some y ∧ a.block = y.block) ∨ w.heap.size ≤ a.block) → K (a.put o.dst (.slice A' (l ++ [b]).length c')) w') :
    o.wp Try.prog a (w.alloc (.cells #[.slice nA b.length nc] 31)) K Q := by
  obtain ⟨A', c', w', hrun, h1, h2, h3⟩ := run_rowsO_push h hl nA b nc hat hn hP o.type n hnl
  unfold Oper.wp execOp
  simp only [ho, resolve, invoke, builtin, Sem.run_bind, Sem.run_pure, Result.andThen_ok, List.map_toArray, List.map_cons, List.map_nil, hs, hx, hrun]
  exact hK A' c' w' h1 h2 h3
theorem wpList_rowsO_push {P : Nat → Prop} {w : World} {ops : Array Oper} {rest : List Oper} {o : Oper} {a : Act} {Q : Exit → Act → World → Prop} (hgd : o.guard = none) (s x : Operand)
    (ho : o.op = .call { callee := .builtin .append, args := #[s, x], argTypes := #[32, 32] })
    (A : Option Addr) (c : Nat) (l : List (List Nat)) (h : RowsO P w A c l) (hl : l.length ≤ 1099511627776) (nA : Option Addr) (b : List Nat) (nc : Nat) (hat : w.ownsRow 0 5 1 (.slice nA b.length nc) b.length (u8s b))
    (hn : ∀ a, nA = some a → P a.block ∧ a.block < w.heap.size ∧ ∀ y, A = some y → a.block ≠ y.block) (hP : ∀ k, w.heap.size ≤ k → P k) (n : Nat) (hnl : n = l.length)
    (hs : a.eval s = .slice A n c) (hx : a.eval x = .slice (some ⟨w.heap.size, 0, none⟩) 1 1)
    (hK : ∀ A' c' w', RowsO P w' A' c' (l ++ [b]) → (Off (fun k => ∃ y, A = some y ∧ k = y.block) w w' ∧ w.heap.size < w'.heap.size) → (∀ a, A' = some a → (∃ y, A = some y ∧ a.block = y.block) ∨ w.heap.size ≤ a.block) → wpList Try.prog ops Q rest (a.put o.dst (.slice A' (l ++ [b]).length c')) w') :
    wpList Try.prog ops Q (o :: rest) a (w.alloc (.cells #[.slice nA b.length nc] 31)) :=
  wpList_plain hgd fun _ hK' => wp_rowsO_push s x ho A c l h hl nA b nc hat hn hP n hnl hs hx fun A' c' w' h1 h2 h3 => hK' _ _ (hK A' c' w' h1 h2 h3)
set_option maxHeartbeats 2000000 in
set_option maxRecDepth 100000 in
theorem records_own_any {Q : Nat → Prop} {gj g inn t en : Nat} {base : List Nat} {recs : List (List Nat)} {w : World} (hm : JMem Q gj g inn t base recs en w) (hl : recs.length ≤ 1099511627775) (hb : ∀ x ∈ recs, x.length ≤ 70368744177664) :
    Calls Try.prog 20 #[.pointer (some ⟨gj, 0, none⟩)] w fun e w' => (∃ A c, e = .returned (.slice A recs.length c) ∧ RowsO (fun k => w.heap.size ≤ k) w' A c recs) ∧ Below w.heap.size w w' := by
  obtain ⟨_, _, bA, bc, rA, rc, hr, _, _, hrows⟩ := hm
  have c4 : w.cell? ⟨gj, 4, none⟩ = some (.slice rA recs.length rc) := hr.cell (i := 4) (by omega)
  have HRO := Lib.hid hrows; have HBL := Lib.hid hb
  clear hr hrows hb
  go_enter Try.func20, Try.ntmps20
  go_wp2_with fail
  clear c4
  go_loopw [3, 5, 14] (fun v3 v5 vi wr => ∃ (k : Nat) (A : Option Addr) (c : Nat), k ≤ recs.length ∧ vi = .int .i64 (k : Int) ∧ v3 = .slice A k c ∧ Hid (RowsO (fun k => w.heap.size ≤ k) wr A c (recs.take k) ∧ Below w.heap.size w wr)) (fun _ _ vi _ => recs.length - (intOf vi).toNat)
  case atStart => exact ⟨0, none, 0, Nat.zero_le _, rfl, rfl, by rw [List.take_zero]; exact RowsO.nil _ _, Below.refl _ _⟩
  case round =>
    obtain ⟨k, A, c, hk, rfl, rfl, HR⟩ := hrel
    by_cases hlt : k < recs.length
    · obtain ⟨b, x, cx, hA, hcell, hat, hxb⟩ := (HRO.out.below HR.out.2).cell hlt
      subst hA
      have HTK := Lib.hid (List.take_succ_eq_append_getElem hlt)
      have hql := HBL.out _ (List.getElem_mem hlt)
      obtain ⟨q, HQ⟩ : ∃ q, Hid (recs[k] = q) := ⟨_, Lib.hid rfl⟩
      rw [HQ.out] at hcell hat HTK hql
      have GC := Lib.hid (bclone_any x q cx hql wr hat)
      clear hat
      go_wp2_with fail
      refine GC.out.mono ?_
      rintro e w4 ⟨⟨v4, rfl, ho4⟩, hb4⟩
      obtain ⟨nA, nc, rfl⟩ := own_slice ho4
      have HB4 : Hid (Below wr.heap.size wr w4) := hb4
      have HN4 : Hid (w4.ownsRow 0 5 1 (.slice nA q.length nc) q.length (u8s q) ∧ ∀ a, nA = some a → wr.heap.size ≤ a.block ∧ a.block < w4.heap.size) := ⟨own_zero ho4, fun a ha => by subst ha; exact ho4.lt a.block rfl⟩
      have HRL4 := Lib.hid (HR.out.1.below HB4.out)
      have HAL : Hid (∀ y, A = some y → y.block < wr.heap.size) := fun y hy => by
        obtain ⟨L, _, _, h3, _⟩ := HR.out.1
        exact (h3 y hy).2
      have HSZ := Lib.hid HR.out.2.size
      clear ho4 hb4
      go_wp2_with
       (at_builtin
        refine wpList_rowsO_push rfl (.tmp 18) (.tmp 21) rfl A c _ HRL4.out (by rw [List.length_take]; omega) nA q nc HN4.out.1 (fun a ha => ⟨Nat.le_trans HSZ.out (HN4.out.2 a ha).1, (HN4.out.2 a ha).2, fun y hy e => by have := HAL.out y hy; have := (HN4.out.2 a ha).1; omega⟩) (fun j hj => Nat.le_trans (Nat.le_trans HSZ.out HB4.out.size) hj) k (by rw [List.length_take]; omega) rfl rfl ?_
        intro A5 c5 w5 hr5 ho5 ha5
        have hlk : (recs.take k ++ [q]).length = k + 1 := by rw [← HTK.out, List.length_take]; omega
        rw [hlk]
        rw [← HTK.out] at hr5
        have HR5 := Lib.hid hr5; have HO5 := Lib.hid ho5.1
        clear hr5 ho5 ha5 hlk)
      go_roundw
      case measure => simp [intOf]; omega
      refine ⟨k + 1, A5, c5, by omega, by go_num, rfl, HR5.out, ?_⟩
      have hOff : Off (fun k => w.heap.size ≤ k) w w5 := (Off.of_below (O := fun k => w.heap.size ≤ k) (HR.out.2.trans (HB4.out.mono HR.out.2.size))).trans HO5.out (fun x ⟨y, hy, e⟩ => .inr (by
        obtain ⟨L, _, _, h3, _⟩ := HR.out.1
        have := (h3 y hy).1
        omega))
      exact ⟨hOff.os, hOff.tape, hOff.output, hOff.size, fun j hj => hOff.block j hj (by omega)⟩
    · obtain rfl : k = recs.length := by omega
      go_wp2
      go_ret
      have h := HR.out.1
      rw [List.take_length] at h
      exact ⟨⟨_, _, rfl, h⟩, HR.out.2⟩
theorem jrecords_own_any {J : Nat → Prop} {gj g n k : Nat} {r : RollV} {w : World} (h : Jo J gj g n k r w) :
    Calls Try.prog 20 #[.pointer (some ⟨gj, 0, none⟩)] w fun e w' => (∃ A c, e = .returned (.slice A r.recs.length c) ∧ RowsO (fun k => w.heap.size ≤ k) w' A c r.recs) ∧ Below w.heap.size w w' := by
  have hg := h.good
  obtain ⟨O, Q, B, o, inn, hO, hQ, hd, hm, _⟩ := h
  exact records_own_any hm (by have := hg.2.2.2.2.1; omega) (fun x hx => by have := (hg.1.recs x hx).1; omega)
end Go.Proofs.Ytahfkcfbmklfpaa

/- Bytes and lists of bytes that a statement's own code writes over, one by one; what stays as it was then. No condition beyond those that each lemma states. -/
namespace Go.Proofs.Ytahfkcfbmklfpaa
open Go.RowKit Go.Deep

/-- Bytes of whatever values, n of them, that may be written. -/
def Octs (w : World) (A : Option Addr) (n : Nat) : Prop := n = 0 ∨ ∃ b, A = some ⟨b, 0, none⟩ ∧ b < w.heap.size ∧ ∀ j, j < n → (∃ x : Nat, x < 256 ∧ w.cell? ⟨b, j, none⟩ = some (.int .u8 (x : Int))) ∧ w.frozen? ⟨b, j, none⟩ = false
theorem Octs.of_own {w : World} {base : Nat} {A : Option Addr} {n c : Nat} {l : List Nat} (h : w.ownsRow base 5 1 (.slice A n c) n (u8s l)) (hn : n = l.length) (hl : ∀ x ∈ l, x < 256) : Octs w A n := by
  subst hn
  rcases Nat.eq_zero_or_pos l.length with h0 | h0
  · exact .inl h0
  · obtain ⟨g, cap, hv, _, hlt⟩ := h.form h0
    injection hv with hv1 _ hv3
    subst hv1
    exact .inr ⟨g, rfl, hlt, fun j hj => ⟨⟨l[j], hl _ (List.getElem_mem hj), by rw [h.cellAt j (by omega), u8s, List.getElem?_map, List.getElem?_eq_getElem hj]; rfl⟩, h.frozenAt j⟩⟩
theorem Octs.below {w w' : World} {A : Option Addr} {n : Nat} (h : Octs w A n) (hb : Below w.heap.size w w') : Octs w' A n := by
  rcases h with h | ⟨b, rfl, hlt, h⟩
  · exact .inl h
  · refine .inr ⟨b, rfl, Nat.lt_of_lt_of_le hlt hb.size, fun j hj => ⟨?_, ?_⟩⟩
    · rw [hb.cell (p := ⟨b, j, none⟩) hlt]
      exact (h j hj).1
    · have := (h j hj).2
      unfold World.frozen? at this ⊢
      rw [hb.block b hlt]
      exact this
theorem Octs.set {w : World} {A : Option Addr} {n : Nat} (h : Octs w A n) {p : Addr} {x y : Nat} (hp : w.cell? p = some (.int .u8 (x : Int))) (hy : y < 256) : Octs (w.setCell p (.int .u8 (y : Int))) A n := by
  rcases h with h | ⟨b, rfl, hlt, h⟩
  · exact .inl h
  · refine .inr ⟨b, rfl, by simpa [World.setCell] using hlt, fun j hj => ⟨?_, (World.frozen?_setCell _ _ _ _).trans (h j hj).2⟩⟩
    by_cases e : p = ⟨b, j, none⟩
    · subst e
      exact ⟨y, hy, World.cell?_setCell_same _ _ _ hp⟩
    · rw [World.cell?_setCell_other (h := e)]
      exact (h j hj).1
theorem Octs.at_ {w : World} {A : Option Addr} {n : Nat} (h : Octs w A n) {j : Nat} (hj : j < n) : ∃ b x, A = some ⟨b, 0, none⟩ ∧ x < 256 ∧ w.cell? ⟨b, j, none⟩ = some (.int .u8 ((x : Nat) : Int)) ∧ w.frozen? ⟨b, j, none⟩ = false := by
  rcases h with h | ⟨b, rfl, _, h⟩
  · omega
  · obtain ⟨⟨x, hx, hc⟩, hf⟩ := h j hj
    exact ⟨b, x, rfl, hx, hc, hf⟩
/-- A list of such bytes, in blocks of P. -/
def OctRows (P : Nat → Prop) (w : World) (A : Option Addr) (l : List (List Nat)) : Prop := ∀ i (hi : i < l.length), ∃ b x cx, A = some ⟨b, 0, none⟩ ∧ w.cell? ⟨b, i, none⟩ = some (.slice x (l[i]).length cx) ∧ Octs w x (l[i]).length ∧ ∀ a, x = some a → P a.block
theorem OctRows.of_rows {P : Nat → Prop} {w : World} {A : Option Addr} {c : Nat} {l : List (List Nat)} (h : RowsO P w A c l) (hl : ∀ x ∈ l, ∀ y ∈ x, y < 256) : OctRows P w A l := fun i hi => by
  obtain ⟨b, x, cx, h1, h2, h3, h4⟩ := h.cell hi
  exact ⟨b, x, cx, h1, h2, Octs.of_own h3 rfl (hl _ (List.getElem_mem hi)), fun a ha => (h4 a ha).1⟩
theorem OctRows.set {P : Nat → Prop} {w : World} {A : Option Addr} {l : List (List Nat)} (h : OctRows P w A l) {p : Addr} {x y : Nat} (hp : w.cell? p = some (.int .u8 (x : Int))) (hy : y < 256) : OctRows P (w.setCell p (.int .u8 (y : Int))) A l := fun i hi => by
  obtain ⟨b, z, cx, h1, h2, h3, h4⟩ := h i hi
  refine ⟨b, z, cx, h1, ?_, h3.set hp hy, h4⟩
  rw [World.cell?_setCell_other (h := ?_)]
  · exact h2
  · intro e
    rw [e, h2] at hp
    cases hp
theorem OctRows.mono {P P' : Nat → Prop} {w : World} {A : Option Addr} {l : List (List Nat)} (h : OctRows P w A l) (hP : ∀ k, P k → P' k) : OctRows P' w A l := fun i hi => by
  obtain ⟨b, z, cx, h1, h2, h3, h4⟩ := h i hi
  exact ⟨b, z, cx, h1, h2, h3, fun a ha => hP _ (h4 a ha)⟩
theorem cell_lt {w : World} {a : Addr} {v : Value} (h : w.cell? a = some v) : a.block < w.heap.size := by
  unfold World.cell? at h
  split at h
  · rename_i hb
    exact (Array.getElem?_eq_some_iff.1 hb).1
  · cases h
theorem cell_alloc {w : World} {a : Addr} {v : Value} (h : w.cell? a = some v) (o : Obj) : (w.alloc o).cell? a = some v := (Below.cell ((Below.refl w.heap.size w).alloc (Nat.le_refl _) o) (cell_lt h)).trans h
/-- A byte more by one. -/
theorem bump8 (x : Nat) : ∃ y : Nat, y < 256 ∧ IntKind.u8.wrap ((x : Int) + 1) = (y : Int) := by
  refine ⟨(x + 1) % 256, Nat.mod_lt _ (by omega), ?_⟩
  rw [show (x : Int) + 1 = ((x + 1 : Nat) : Int) by omega]
  unfold IntKind.wrap
  simp [IntKind.bits, IntKind.signed]
/-- What is written elsewhere leaves the journal as it is. -/
theorem Jo.set {J : Nat → Prop} {gj g n k : Nat} {r : RollV} {w : World} (h : Jo J gj g n k r w) {p : Addr} (hp : ¬J p.block) (v : Value) : Jo J gj g n k r (w.setCell p v) :=
  h.kept (by simp [World.setCell]) fun b hb _ => Below.heap_setCell w p v b fun e => hp (e ▸ hb)
theorem keeps_first (t : Nat) (b : List Nat) : (⟨t, b, []⟩ : RollV).first.length ≤ b.length + 16 ∧ (⟨t, b, []⟩ : RollV).bytes.length = (⟨t, b, []⟩ : RollV).first.length := by
  refine ⟨?_, by simp [RollV.bytes]⟩
  rw [first_length]
  have h1 := nsz_le t
  have h2 := (flen_bounds (nsz t + b.length)).2
  show flen (nsz t + b.length) ≤ _
  omega
end Go.Proofs.Ytahfkcfbmklfpaa

/- The law JournalKeeps: what was appended is kept as it was, whatever was done with the bytes in between; what was told may be changed. Condition: no slice is longer than memory. -/
namespace Go.Proofs.Ytahfkcfbmklfpaa
open Go.RowKit Go.Deep

set_option maxHeartbeats 8000000 in
set_option maxRecDepth 100000 in
theorem journalKeeps_yes (bA : Option Addr) (base : List Nat) (bc : Nat) (lA : Option Addr) (ls : List (List Nat)) (lc m : Nat) (h1 : base.length ≤ 500) (h2 : ls.length ≤ 30) (hm : m ≤ 2000) (hbb : ∀ x ∈ base, x < 256) (hls : ∀ x ∈ ls, x.length ≤ 2000 ∧ ∀ y ∈ x, y < 256)
    (w : World) (hat : BytesAt w bA base) (hl : ListAt w lA ls) (hw : Calls Try.prog 22 #[.slice lA ls.length lc, .int .i64 2000] w fun e w' => e = .returned (.int .i64 (m : Int)) ∧ Below w.heap.size w w') :
    Calls Try.prog 6 #[.slice bA base.length bc, .slice lA ls.length lc] w fun e w' => e = .returned (.bool true) ∧ Below w.heap.size w w' := by
  have GA := Lib.hid awake_any
  have HBA := Lib.hid hat; have HLA := Lib.hid hl; have HBB := Lib.hid hbb; have HLS := Lib.hid hls; have GW := Lib.hid hw
  have GN := Lib.hid (jnew1_any (n := 2000) (by omega) (by omega))
  clear hat hl hbb hls hw
  go_enter Try.func6, Try.ntmps6
  go_wp2_with fail
  refine GW.out.mono ?_
  rintro e w1 ⟨rfl, hb1⟩
  have HB1 := Lib.hid hb1
  clear hb1
  go_wp2_with fail
  refine (GN.out w1).mono ?_
  rintro e w2 ⟨g, J2', rfl, hd2', hJ2', hb2⟩
  obtain ⟨J2, hd2, hJ2, _⟩ := hd2'.tidy (base := w.heap.size) (fun y hy => Nat.le_trans HB1.out.size (hJ2' y hy))
  have HD2 := Lib.hid hd2; have HJ2 := Lib.hid hJ2
  have HB2 : Hid (Below w.heap.size w w2) := HB1.out.trans (hb2.mono HB1.out.size)
  clear hd2' hJ2' hb2 hd2 hJ2
  go_wp2_with fail
  refine (jopen_any HD2.out (by omega)).mono ?_
  rintro e w3 ⟨gj, J3', rfl, hJ3', hjo3', hoff3⟩
  obtain ⟨J3, hjo3, hap3, _, hb3⟩ := hjo3'.tidy hJ3' hoff3 HJ2.out HB2.out.size
  have HJO3 : Hid (Jo J3 gj g 2000 (0 + 300000) ⟨1, [], []⟩ w3) := hjo3
  have HAP3 := Lib.hid hap3
  have HB3 : Hid (Below w.heap.size w w3) := HB2.out.trans hb3
  clear hjo3' hJ3' hoff3 hjo3 hap3 hb3
  have HS3 := Lib.hid HB3.out.size
  go_wp2_with
   (at_builtin
    refine wpList_append_bytes rfl (.tmp 56) (.tmp 57) rfl w3.heap.size (.slice (some ⟨w3.heap.size, 0, none⟩) 0 0) 0 [] rfl (World.ownsRow_lit w3 #[] 0 (Nat.le_refl _) (by simp [maxLen]) rfl) bA base bc rfl ((HBA.out.below HB3.out).alloc _) (by omega) (by simp) ?_
    intro v4 w4 hap4
    have hb4 := hap4.below (balloc (Below.refl _ _) _) (by simp) (fun k hk => by simp [Value.ownBlock] at hk; omega)
    have ho4 := hap4.1
    rw [List.nil_append, Nat.zero_add] at ho4
    obtain ⟨A4, c4, rfl⟩ := own_slice ho4
    have HO4 := Lib.hid ho4; have HBL4 := Lib.hid hb4.1
    clear hap4 hb4 ho4)
  have HJO4 := Lib.hid (HJO3.out.below HBL4.out)
  have HB4 : Hid (Below w.heap.size w w4) := HB3.out.trans (HBL4.out.mono HS3.out)
  have HAP4 : Hid (∀ y, J3 y → w.heap.size ≤ y ∧ y < w4.heap.size) := fun y hy => ⟨(HAP3.out y hy).1, Nat.lt_of_lt_of_le (HAP3.out y hy).2 HBL4.out.size⟩
  have HNB4 : Hid (∀ a : Addr, A4 = some a → w3.heap.size ≤ a.block ∧ a.block < w4.heap.size) := fun a ha => by
    subst ha
    exact HO4.out.lt a.block rfl
  have GRS := Lib.hid (reset_any HJO4.out (by omega) A4 base c4 (by omega) HBB.out (BytesAt.of_own HO4.out rfl))
  have hfl := (keeps_first (1 + 1) base).1
  have HFB := Lib.hid (keeps_first (1 + 1) base).2
  obtain ⟨R, HRR⟩ : ∃ R : RollV, Hid ((⟨1 + 1, base, []⟩ : RollV) = R) := ⟨_, Lib.hid rfl⟩
  have GRS2 : Hid (Calls Try.prog 21 #[.pointer (some ⟨gj, 0, none⟩), .slice A4 base.length c4] w4 fun e w' =>
      (64 * (2000 / 2) < (⟨1 + 1, base, []⟩ : RollV).first.length ∧ e = .returned (.int .i64 4) ∧ Jo J3 gj g 2000 (0 + 300000) ⟨1, [], []⟩ w' ∧ Off J3 w4 w') ∨
      ((⟨1 + 1, base, []⟩ : RollV).first.length ≤ 64 * (2000 / 2) ∧ e = .returned (.int .i64 0) ∧ ∃ J' : Nat → Prop, (∀ x, J' x → J3 x ∨ w4.heap.size ≤ x) ∧ Jo J' gj g 2000 (0 + 300000 + 200000) ⟨1 + 1, base, []⟩ w' ∧ Off J3 w4 w')) := GRS.out
  clear GRS
  rw [HRR.out] at GRS2 hfl HFB
  obtain ⟨fl, HFL⟩ : ∃ fl, Hid (R.first.length = fl) := ⟨_, rfl⟩
  rw [HFL.out] at GRS2 hfl HFB
  go_wp2_with fail
  refine GRS2.out.mono ?_
  rintro e w5 (⟨hbad, _⟩ | ⟨_, rfl, J5', hJ5', hjo5', hoff5⟩)
  · exfalso
    omega
  obtain ⟨J5, hjo5, hap5, hnj5, hb5⟩ := hjo5'.tidy hJ5' hoff5 HAP4.out HB4.out.size
  have HNB5 : Hid (∀ a : Addr, A4 = some a → ¬J5 a.block ∧ w.heap.size ≤ a.block) := fun a ha => by
    obtain ⟨h6, h7⟩ := HNB4.out a ha
    refine ⟨fun h => ?_, Nat.le_trans HS3.out h6⟩
    rcases hnj5 _ h with h | h
    · exact Nat.lt_irrefl _ (Nat.lt_of_lt_of_le (HAP3.out _ h).2 h6)
    · omega
  have HOC5 : Hid (Octs w5 A4 base.length) := Octs.of_own (own_kept HO4.out fun a ha => hoff5.block _ (HNB4.out a ha).2 fun h => Nat.lt_irrefl _ (Nat.lt_of_lt_of_le (HAP3.out _ h).2 (HNB4.out a ha).1)) rfl HBB.out
  have HJO5 := Lib.hid hjo5; have HAP5 := Lib.hid hap5
  have HB5 : Hid (Below w.heap.size w w5) := HB4.out.trans hb5
  have HBY : Hid (R.bytes.length ≤ 600) := by show _ ≤ _; rw [HFB.out]; omega
  clear hjo5' hJ5' hoff5 hjo5 hap5 hb5 hfl hnj5 GRS2
  go_wp2_with fail
  go_loopw [10] (fun vi wr => ∃ i : Nat, i ≤ base.length ∧ vi = .int .i64 (i : Int) ∧ Hid (Octs wr A4 base.length ∧ Jo J5 gj g 2000 (0 + 300000 + 200000) R wr ∧ w5.heap.size ≤ wr.heap.size ∧ Below w.heap.size w wr)) (fun vi _ => base.length - (intOf vi).toNat)
  case atStart => exact ⟨0, Nat.zero_le _, rfl, HOC5.out, HJO5.out, Nat.le_refl _, HB5.out⟩
  case round =>
    obtain ⟨i, hi, rfl, HI⟩ := hrel
    by_cases hib : i < base.length
    · obtain ⟨b, x, rfl, hx, hcell, hfr⟩ := HI.out.1.at_ hib
      obtain ⟨y, hy, hwr⟩ := bump8 x
      have HN : Hid (Octs (wr.setCell ⟨b, i, none⟩ (.int .u8 (y : Int))) (some ⟨b, 0, none⟩) base.length ∧ Jo J5 gj g 2000 (0 + 300000 + 200000) R (wr.setCell ⟨b, i, none⟩ (.int .u8 (y : Int))) ∧ w5.heap.size ≤ (wr.setCell ⟨b, i, none⟩ (.int .u8 (y : Int))).heap.size ∧ Below w.heap.size w (wr.setCell ⟨b, i, none⟩ (.int .u8 (y : Int)))) :=
        ⟨HI.out.1.set hcell hy, HI.out.2.1.set (p := ⟨b, i, none⟩) (HNB5.out _ rfl).1 _, by simpa [World.setCell] using HI.out.2.2.1, HI.out.2.2.2.setCell (p := ⟨b, i, none⟩) (HNB5.out _ rfl).2 _⟩
      go_wp2_with fail
      go_roundw
      case measure => simp [intOf]; omega
      exact ⟨i + 1, by omega, by go_num, HN.out⟩
    · have HAPR : Hid (∀ y, J5 y → w.heap.size ≤ y ∧ y < wr.heap.size) := fun y hy => ⟨(HAP5.out y hy).1, Nat.lt_of_lt_of_le (HAP5.out y hy).2 HI.out.2.2.1⟩
      have HJOR := Lib.hid HI.out.2.1
      have HBR := Lib.hid HI.out.2.2.2
      rw [← HRR.out] at HJOR HBY
      clear HI HFL HRR HFB
      go_wp2_with fail
      go_loopw [11] (fun vi wr => ∃ (i : Nat) (J : Nat → Prop), i ≤ ls.length ∧ vi = .int .i64 (i : Int) ∧ Hid (Jo J gj g 2000 (500000 + i * 100000) ⟨1 + 1, base, ls.take i⟩ wr ∧ (∀ y, J y → w.heap.size ≤ y ∧ y < wr.heap.size) ∧ (⟨1 + 1, base, ls.take i⟩ : RollV).bytes.length ≤ 600 + i * 2010 ∧ Below w.heap.size w wr)) (fun vi _ => ls.length - (intOf vi).toNat)
      case atStart => exact ⟨0, J5, Nat.zero_le _, rfl, by rw [List.take_zero]; exact HJOR.out, HAPR.out, by rw [List.take_zero]; exact HBY.out, HBR.out⟩
      case round =>
        obtain ⟨q, J, hq, rfl, HI⟩ := hrel
        by_cases hql : q < ls.length
        · obtain ⟨lb, lo, x, cx, rfl, hcell, hxat⟩ := (HLA.out.below HI.out.2.2.2) q hql
          have HTK := Lib.hid (List.take_succ_eq_append_getElem hql)
          have hxl := HLS.out _ (List.getElem_mem hql)
          have HXB := Lib.hid hxl.2
          have hxl := hxl.1
          obtain ⟨D, HD⟩ : ∃ D, Hid (ls[q] = D) := ⟨_, Lib.hid rfl⟩
          rw [HD.out] at hcell hxat HTK hxl HXB
          have HXAT := Lib.hid hxat
          have HSX := Lib.hid HI.out.2.2.2.size
          clear hxat
          have hlt : lb < wr.heap.size := cell_lt hcell
          have hcell := cell_alloc hcell (.cells #[] 5)
          go_wp2_with
           (at_builtin
            refine wpList_append_bytes rfl (.tmp 81) (.tmp 85) rfl wr.heap.size (.slice (some ⟨wr.heap.size, 0, none⟩) 0 0) 0 [] rfl (World.ownsRow_lit wr #[] 0 (Nat.le_refl _) (by simp [maxLen]) rfl) x D cx rfl (HXAT.out.alloc _) (by omega) (by simp) ?_
            intro v6 w6 hap6
            have hb6 := hap6.below (balloc (Below.refl _ _) _) (by simp) (fun k hk => by simp [Value.ownBlock] at hk; omega)
            have ho6 := hap6.1
            rw [List.nil_append, Nat.zero_add] at ho6
            obtain ⟨A6, c6, rfl⟩ := own_slice ho6
            have HO6 := Lib.hid ho6; have HBL6 := Lib.hid hb6.1
            clear hap6 hb6 ho6)
          clear hcell hlt
          have HJO6 := Lib.hid (HI.out.1.below HBL6.out)
          have HB6 : Hid (Below w.heap.size w w6) := HI.out.2.2.2.trans (HBL6.out.mono HSX.out)
          have HAP6 : Hid (∀ y, J y → w.heap.size ≤ y ∧ y < w6.heap.size) := fun y hy => ⟨(HI.out.2.1 y hy).1, Nat.lt_of_lt_of_le (HI.out.2.1 y hy).2 HBL6.out.size⟩
          have HNB6 : Hid (∀ a : Addr, A6 = some a → wr.heap.size ≤ a.block ∧ a.block < w6.heap.size ∧ ¬J a.block) := fun a ha => by
            subst ha
            obtain ⟨h6, h7⟩ := HO6.out.lt a.block rfl
            exact ⟨h6, h7, fun h => Nat.lt_irrefl _ (Nat.lt_of_lt_of_le (HI.out.2.1 _ h).2 h6)⟩
          have GAP := Lib.hid (append_any HJO6.out (by omega) A6 D c6 (by omega) HXB.out (BytesAt.of_own HO6.out rfl) (fun a ha => (HNB6.out a ha).2.2))
          have HLM := Lib.hid (len_more ⟨1 + 1, base, ls.take q⟩ D)
          have hfle := (flen_bounds D.length).2
          obtain ⟨fe, HFE⟩ : ∃ fe, Hid (flen D.length = fe) := ⟨_, rfl⟩
          have hbl := HI.out.2.2.1
          obtain ⟨rb, HRB⟩ : ∃ rb, Hid ((⟨1 + 1, base, ls.take q⟩ : RollV).bytes.length = rb) := ⟨_, rfl⟩
          rw [HFE.out] at GAP HLM hfle
          rw [HRB.out] at GAP HLM hbl
          have HBLE : Hid (rb + fe ≤ 600 + (q + 1) * 2010) := by show _ ≤ _; omega
          have h6 : rb + fe ≤ 64000 := by have := HBLE.out; omega
          have H6 := Lib.hid h6
          clear hfle hbl h6
          go_wp2_with fail
          refine GAP.out.mono ?_
          rintro e w7 (⟨hbad, _⟩ | ⟨_, rfl, J7', hJ7', hjo7', hoff7⟩)
          · exfalso
            have := H6.out
            omega
          obtain ⟨J7, hjo7, hap7, hnj7, hb7⟩ := hjo7'.tidy hJ7' hoff7 HAP6.out HB6.out.size
          have HNB7 : Hid (∀ a : Addr, A6 = some a → ¬J7 a.block ∧ w.heap.size ≤ a.block) := fun a ha => by
            obtain ⟨h6, h7, h8⟩ := HNB6.out a ha
            refine ⟨fun h => ?_, Nat.le_trans HSX.out h6⟩
            rcases hnj7 _ h with h | h
            · exact h8 h
            · omega
          have HOC7 : Hid (Octs w7 A6 D.length) := Octs.of_own (own_kept HO6.out fun a ha => hoff7.block _ (HNB6.out a ha).2.1 (HNB6.out a ha).2.2) rfl HXB.out
          have HJO7 : Hid (Jo J7 gj g 2000 (500000 + (q + 1) * 100000) ⟨1 + 1, base, ls.take (q + 1)⟩ w7) := by
            show Jo _ _ _ _ _ _ _
            rw [HTK.out, show 500000 + (q + 1) * 100000 = 500000 + q * 100000 + 100000 by omega]
            exact hjo7
          have HAP7 := Lib.hid hap7
          have HB7 : Hid (Below w.heap.size w w7) := HB6.out.trans hb7
          have HBY7 : Hid ((⟨1 + 1, base, ls.take (q + 1)⟩ : RollV).bytes.length ≤ 600 + (q + 1) * 2010) := by
            show _ ≤ _
            rw [HTK.out, HLM.out]
            exact HBLE.out
          clear hjo7' hJ7' hoff7 hjo7 hap7 hb7 hnj7
          go_wp2_with fail
          go_loopw [13] (fun vi wr => ∃ i : Nat, i ≤ D.length ∧ vi = .int .i64 (i : Int) ∧ Hid (Octs wr A6 D.length ∧ Jo J7 gj g 2000 (500000 + (q + 1) * 100000) ⟨1 + 1, base, ls.take (q + 1)⟩ wr ∧ w7.heap.size ≤ wr.heap.size ∧ Below w.heap.size w wr)) (fun vi _ => D.length - (intOf vi).toNat)
          case atStart => exact ⟨0, Nat.zero_le _, rfl, HOC7.out, HJO7.out, Nat.le_refl _, HB7.out⟩
          case round =>
            obtain ⟨i, hi, rfl, HI⟩ := hrel
            by_cases hib : i < D.length
            · obtain ⟨b, x, rfl, hx, hcell, hfr⟩ := HI.out.1.at_ hib
              obtain ⟨y, hy, hwr⟩ := bump8 x
              have HN : Hid (Octs (wr.setCell ⟨b, i, none⟩ (.int .u8 (y : Int))) (some ⟨b, 0, none⟩) D.length ∧ Jo J7 gj g 2000 (500000 + (q + 1) * 100000) ⟨1 + 1, base, ls.take (q + 1)⟩ (wr.setCell ⟨b, i, none⟩ (.int .u8 (y : Int))) ∧ w7.heap.size ≤ (wr.setCell ⟨b, i, none⟩ (.int .u8 (y : Int))).heap.size ∧ Below w.heap.size w (wr.setCell ⟨b, i, none⟩ (.int .u8 (y : Int)))) :=
                ⟨HI.out.1.set hcell hy, HI.out.2.1.set (p := ⟨b, i, none⟩) (HNB7.out _ rfl).1 _, by simpa [World.setCell] using HI.out.2.2.1, HI.out.2.2.2.setCell (p := ⟨b, i, none⟩) (HNB7.out _ rfl).2 _⟩
              go_wp2_with fail
              go_roundw
              case measure => simp [intOf]; omega
              exact ⟨i + 1, by omega, by go_num, HN.out⟩
            · go_wp2_with fail
              go_roundw
              case measure => simp [intOf]; omega
              exact ⟨q + 1, J7, by omega, by go_num, HI.out.2.1, fun y hy => ⟨(HAP7.out y hy).1, Nat.lt_of_lt_of_le (HAP7.out y hy).2 HI.out.2.2.1⟩, HBY7.out, HI.out.2.2.2⟩
        · obtain rfl : q = ls.length := by omega
          have hjo := HI.out.1
          rw [List.take_length] at hjo
          have HJOX := Lib.hid hjo
          have HAPX := Lib.hid HI.out.2.1
          have HBX := Lib.hid HI.out.2.2.2
          clear hjo HI
          go_wp2_with fail
          have GB8 : Hid (Calls Try.prog 19 #[.pointer (some ⟨gj, 0, none⟩)] wr fun e w' => (∃ v, e = .returned v ∧ w'.ownsRow wr.heap.size 5 1 v base.length (u8s base)) ∧ Below wr.heap.size wr w') := jbase_any HJOX.out
          refine GB8.out.mono ?_
          rintro e w8 ⟨⟨v8, rfl, ho8⟩, hb8⟩
          obtain ⟨A8, c8, rfl⟩ := own_slice ho8
          have HOC8 : Hid (Octs w8 A8 base.length) := Octs.of_own ho8 rfl HBB.out
          have HNB8 : Hid (∀ a : Addr, A8 = some a → ¬J a.block ∧ w.heap.size ≤ a.block) := fun a ha => by
            subst ha
            have h := (ho8.lt a.block rfl).1
            exact ⟨fun hj => Nat.lt_irrefl _ (Nat.lt_of_lt_of_le (HAPX.out _ hj).2 h), Nat.le_trans HBX.out.size h⟩
          have HJO8 := Lib.hid (HJOX.out.below hb8)
          have HB8 : Hid (Below w.heap.size w w8) := HBX.out.trans (hb8.mono HBX.out.size)
          have HS8 : Hid (wr.heap.size ≤ w8.heap.size) := hb8.size
          clear ho8 hb8 GB8
          have GR9 : Hid (Calls Try.prog 20 #[.pointer (some ⟨gj, 0, none⟩)] w8 fun e w' => (∃ A c, e = .returned (.slice A ls.length c) ∧ RowsO (fun k => w8.heap.size ≤ k) w' A c ls) ∧ Below w8.heap.size w8 w') := jrecords_own_any HJO8.out
          go_wp2_with fail
          refine GR9.out.mono ?_
          rintro e w9 ⟨⟨A9, c9, rfl, hr9⟩, hb9⟩
          have HOC9 : Hid (Octs w9 A8 base.length) := HOC8.out.below hb9
          have HOR9 : Hid (OctRows (fun y => ¬J y ∧ w.heap.size ≤ y) w9 A9 ls) := (OctRows.of_rows hr9 (fun x hx => (HLS.out x hx).2)).mono fun y hy => ⟨fun hj => Nat.lt_irrefl _ (Nat.lt_of_lt_of_le (HAPX.out _ hj).2 (Nat.le_trans HS8.out hy)), Nat.le_trans HB8.out.size hy⟩
          have HJO9 := Lib.hid (HJO8.out.below hb9)
          have HB9 : Hid (Below w.heap.size w w9) := HB8.out.trans (hb9.mono HB8.out.size)
          have HJL9 : Hid (∀ y, J y → y < w9.heap.size) := fun y hy => Nat.lt_of_lt_of_le (HAPX.out y hy).2 (Nat.le_trans HS8.out hb9.size)
          clear hr9 hb9 GR9
          go_wp2_with fail
          go_loopw [16] (fun vi wr => ∃ i : Nat, i ≤ base.length ∧ vi = .int .i64 (i : Int) ∧ Hid (Octs wr A8 base.length ∧ OctRows (fun y => ¬J y ∧ w.heap.size ≤ y) wr A9 ls ∧ Jo J gj g 2000 (500000 + ls.length * 100000) ⟨1 + 1, base, ls⟩ wr ∧ w9.heap.size ≤ (wr).heap.size ∧ Below w.heap.size w wr)) (fun vi _ => base.length - (intOf vi).toNat)
          case atStart => exact ⟨0, Nat.zero_le _, rfl, HOC9.out, HOR9.out, HJO9.out, Nat.le_refl _, HB9.out⟩
          case round =>
            obtain ⟨i, hi, rfl, HI⟩ := hrel
            by_cases hib : i < base.length
            · obtain ⟨b, x, rfl, hx, hcell, hfr⟩ := HI.out.1.at_ hib
              obtain ⟨y, hy, hwr⟩ := bump8 x
              have HN : Hid (Octs (wr.setCell ⟨b, i, none⟩ (.int .u8 (y : Int))) (some ⟨b, 0, none⟩) base.length ∧ OctRows (fun y => ¬J y ∧ w.heap.size ≤ y) (wr.setCell ⟨b, i, none⟩ (.int .u8 (y : Int))) A9 ls ∧ Jo J gj g 2000 (500000 + ls.length * 100000) ⟨1 + 1, base, ls⟩ (wr.setCell ⟨b, i, none⟩ (.int .u8 (y : Int))) ∧ w9.heap.size ≤ ((wr.setCell ⟨b, i, none⟩ (.int .u8 (y : Int)))).heap.size ∧ Below w.heap.size w (wr.setCell ⟨b, i, none⟩ (.int .u8 (y : Int)))) :=
                ⟨HI.out.1.set hcell hy, HI.out.2.1.set hcell hy, HI.out.2.2.1.set (p := ⟨b, i, none⟩) (HNB8.out _ rfl).1 _, by simpa [World.setCell] using HI.out.2.2.2.1, HI.out.2.2.2.2.setCell (p := ⟨b, i, none⟩) (HNB8.out _ rfl).2 _⟩
              go_wp2_with fail
              go_roundw
              case measure => simp [intOf]; omega
              exact ⟨i + 1, by omega, by go_num, HN.out⟩
            · have HIR := Lib.hid HI.out.2
              clear HI
              go_wp2_with fail
              go_loopw [17] (fun vi wr => ∃ i : Nat, i ≤ ls.length ∧ vi = .int .i64 (i : Int) ∧ Hid (OctRows (fun y => ¬J y ∧ w.heap.size ≤ y) wr A9 ls ∧ Jo J gj g 2000 (500000 + ls.length * 100000) ⟨1 + 1, base, ls⟩ wr ∧ w9.heap.size ≤ (wr).heap.size ∧ Below w.heap.size w wr)) (fun vi _ => ls.length - (intOf vi).toNat)
              case atStart => exact ⟨0, Nat.zero_le _, rfl, HIR.out⟩
              case round =>
                obtain ⟨p, hp, rfl, HI⟩ := hrel
                by_cases hpl : p < ls.length
                · obtain ⟨n, HN⟩ : ∃ n, Hid ((ls[p]).length = n) := ⟨_, Lib.hid rfl⟩
                  have hn2 : n ≤ 2000 := by
                    have h := (HLS.out _ (List.getElem_mem hpl)).1
                    rw [HN.out] at h
                    exact h
                  go_wp2_with fail
                  go_loopw [18] (fun vi wr => ∃ i : Nat, i ≤ n ∧ vi = .int .i64 (i : Int) ∧ Hid (OctRows (fun y => ¬J y ∧ w.heap.size ≤ y) wr A9 ls ∧ Jo J gj g 2000 (500000 + ls.length * 100000) ⟨1 + 1, base, ls⟩ wr ∧ w9.heap.size ≤ (wr).heap.size ∧ Below w.heap.size w wr)) (fun vi _ => n - (intOf vi).toNat)
                  case atStart => exact ⟨0, Nat.zero_le _, rfl, HI.out⟩
                  case round =>
                    obtain ⟨i, hi, rfl, HK⟩ := hrel
                    obtain ⟨b, x, cx, hA, hcell, hoct, hP⟩ := HK.out.1 p hpl
                    subst hA
                    rw [HN.out] at hcell hoct
                    by_cases hin : i < n
                    · obtain ⟨b2, z, rfl, hz, hcell2, hfr2⟩ := hoct.at_ hin
                      obtain ⟨y, hy, hwr⟩ := bump8 z
                      have HN2 : Hid (OctRows (fun y => ¬J y ∧ w.heap.size ≤ y) (wr.setCell ⟨b2, i, none⟩ (.int .u8 (y : Int))) (some ⟨b, 0, none⟩) ls ∧ Jo J gj g 2000 (500000 + ls.length * 100000) ⟨1 + 1, base, ls⟩ (wr.setCell ⟨b2, i, none⟩ (.int .u8 (y : Int))) ∧ w9.heap.size ≤ ((wr.setCell ⟨b2, i, none⟩ (.int .u8 (y : Int)))).heap.size ∧ Below w.heap.size w (wr.setCell ⟨b2, i, none⟩ (.int .u8 (y : Int)))) :=
                        ⟨HK.out.1.set hcell2 hy, HK.out.2.1.set (p := ⟨b2, i, none⟩) (hP _ rfl).1 _, by simpa [World.setCell] using HK.out.2.2.1, HK.out.2.2.2.setCell (p := ⟨b2, i, none⟩) (hP _ rfl).2 _⟩
                      clear hoct hP
                      go_wp2_with fail
                      go_roundw
                      case measure => simp [intOf]; omega
                      exact ⟨i + 1, by omega, by go_num, HN2.out⟩
                    · clear hoct hP
                      go_wp2_with fail
                      go_roundw
                      case measure => simp [intOf]; omega
                      exact ⟨p + 1, by omega, by go_num, HK.out⟩
                · obtain rfl : p = ls.length := by omega
                  go_wp2_with fail
                  refine (jcrash1_any HI.out.2.1.disk none [] 0 (.inl rfl)).mono ?_
                  rintro e w10 ⟨g10, J10', rfl, hd10', hJ10', hb10⟩
                  obtain ⟨J10, hd10, hJ10, hJJ10⟩ := hd10'.tidy (base := w.heap.size) (fun y hy => Nat.le_trans HI.out.2.2.2.size (hJ10' y hy))
                  have HD10 := Lib.hid hd10; have HJ10 := Lib.hid hJ10
                  have HJF10 : Hid (∀ y, J y → ¬J10 y) := fun y hy hy2 => by
                    have h3 := hJ10' y (hJJ10 y hy2)
                    exact Nat.lt_irrefl _ (Nat.lt_of_lt_of_le (HJL9.out y hy) (Nat.le_trans HI.out.2.2.1 h3))
                  have HB10 : Hid (Below w.heap.size w w10) := HI.out.2.2.2.trans (hb10.mono HI.out.2.2.2.size)
                  have HJO10 := Lib.hid (HI.out.2.1.below hb10)
                  clear hd10' hJ10' hb10 hd10 hJ10 hJJ10
                  go_wp2_with fail
                  refine (jopen_any HD10.out (by omega)).mono ?_
                  rintro e w11 ⟨gk, J11', rfl, hJ11', hjo11', hoff11⟩
                  obtain ⟨J11, hjo11, _, _, hb11⟩ := hjo11'.tidy hJ11' hoff11 HJ10.out HB10.out.size
                  have HJK11 : Hid (Jo J11 gk g10 2000 (500000 + ls.length * 100000 + 300000) ⟨1 + 1, base, ls⟩ w11) := hjo11
                  have HJO11 := Lib.hid (HJO10.out.kept hoff11.size fun b hb hlt => hoff11.block b hlt (HJF10.out b hb))
                  have HB11 : Hid (Below w.heap.size w w11) := HB10.out.trans hb11
                  clear hjo11' hJ11' hoff11 hjo11 hb11
                  have GS : Hid (Calls Try.prog 14 #[.pointer (some ⟨gj, 0, none⟩), .agg #[.slice bA base.length bc, .slice lA ls.length lc]] w11 fun e w' => e = .returned (.bool true) ∧ Below w11.heap.size w11 w') := shows_yes HJO11.out bA bc lA lc (HBA.out.below HB11.out) (HLA.out.below HB11.out)
                  go_wp2_with fail
                  refine GS.out.mono ?_
                  rintro e w12 ⟨rfl, hb12⟩
                  have HJK12 := Lib.hid (HJK11.out.below hb12)
                  have HB12 : Hid (Below w.heap.size w w12) := HB11.out.trans (hb12.mono HB11.out.size)
                  clear hb12 GS
                  have GS : Hid (Calls Try.prog 14 #[.pointer (some ⟨gk, 0, none⟩), .agg #[.slice bA base.length bc, .slice lA ls.length lc]] w12 fun e w' => e = .returned (.bool true) ∧ Below w12.heap.size w12 w') := shows_yes HJK12.out bA bc lA lc (HBA.out.below HB12.out) (HLA.out.below HB12.out)
                  go_wp2_with fail
                  refine GS.out.mono ?_
                  rintro e w13 ⟨rfl, hb13⟩
                  have HB13 : Hid (Below w.heap.size w w13) := HB12.out.trans (hb13.mono HB12.out.size)
                  clear hb13
                  go_wp2_with fail
                  refine (GA.out w13).mono ?_
                  rintro e w14 ⟨rfl, hb14⟩
                  have HB14 : Hid (Below w.heap.size w w14) := HB13.out.trans (hb14.mono HB13.out.size)
                  clear hb14
                  go_wp2
                  go_ret
                  exact ⟨rfl, HB14.out⟩

theorem rows_list {w : World} {A : Option Addr} {L : List (Option Addr × Nat × List Nat)} (h : RowsAt w A L) : ListAt w A (L.map fun x => x.2.2) := fun i hi => by
  rw [List.length_map] at hi
  rcases h with rfl | ⟨b, off, rfl, _, hc⟩
  · simp at hi
  · obtain ⟨h1, h2⟩ := hc i _ (List.getElem?_eq_getElem hi)
    exact ⟨b, off, L[i].1, L[i].2.1, rfl, by simpa using h1, by simpa using h2⟩
theorem mem_flat {L : List (Option Addr × Nat × List Nat)} {x : Option Addr × Nat × List Nat} (h : x ∈ L) : x.2.2.length ≤ (flat L).length := by
  induction L with
  | nil => cases h
  | cons y L ih =>
    rw [flat_cons, List.length_append]
    rcases List.mem_cons.1 h with rfl | h
    · omega
    · have := ih h
      omega

set_option maxHeartbeats 1000000 in
set_option maxRecDepth 100000 in
theorem journalKeeps_any (bA : Option Addr) (base : List Nat) (bc : Nat) (lA : Option Addr) (L : List (Option Addr × Nat × List Nat)) (lc : Nat) (hbl : base.length ≤ maxLen) (hll : L.length ≤ maxLen) (hbb : ∀ x ∈ base, x < 256) (hf : Fine L) (w : World) (hat : BytesAt w bA base) (hr : RowsAt w lA L) :
    Calls Try.prog 6 #[.slice bA base.length bc, .slice lA L.length lc] w fun e w' => e = .returned (.bool true) ∧ Below w.heap.size w w' := by
  have GA := Lib.hid awake_any
  have GW : Calls Try.prog 22 #[.slice lA L.length lc, .int .i64 2000] w fun e w' => e = .returned (.int .i64 ((weight 2000 0 L : Nat) : Int)) ∧ Below w.heap.size w w' := alikeBytes_at 2000 lc hll hf w hr
  have hsp := weight_spec 2000 (by omega) L 0
  generalize weight 2000 0 L = m at GW hsp
  by_cases hgood : base.length ≤ 500 ∧ m ≤ 2000 ∧ L.length ≤ 30
  · have hs := hsp hgood.2.1
    have h := journalKeeps_yes bA base bc lA (L.map fun x => x.2.2) lc m hgood.1 (by rw [List.length_map]; exact hgood.2.2) hgood.2.1 hbb (fun x hx => by
      obtain ⟨y, hy, rfl⟩ := List.mem_map.1 hx
      have := mem_flat hy
      exact ⟨by omega, (hf y hy).2⟩) w hat (rows_list hr) (by rw [List.length_map]; exact GW)
    rw [List.length_map] at h
    exact h
  simp only [maxLen] at hbl hll
  have GW := Lib.hid GW
  clear hat hr hsp hf hbb
  by_cases h1 : 500 < base.length
  · go_enter Try.func6, Try.ntmps6
    go_wp2_with fail
    refine (GA.out w).mono ?_
    rintro e w3 ⟨rfl, hb3⟩
    go_wp2
    go_ret
    exact ⟨rfl, hb3⟩
  by_cases h2 : 2000 < m
  · go_enter Try.func6, Try.ntmps6
    go_wp2_with fail
    refine GW.out.mono ?_
    rintro e w1 ⟨rfl, hb1⟩
    go_wp2_with fail
    refine (GA.out w1).mono ?_
    rintro e w3 ⟨rfl, hb3⟩
    go_wp2
    go_ret
    exact ⟨rfl, hb1.trans (hb3.mono hb1.size)⟩
  · have h3 : 30 < L.length := by omega
    go_enter Try.func6, Try.ntmps6
    go_wp2_with fail
    refine GW.out.mono ?_
    rintro e w1 ⟨rfl, hb1⟩
    go_wp2_with fail
    refine (GA.out w1).mono ?_
    rintro e w3 ⟨rfl, hb3⟩
    go_wp2
    go_ret
    exact ⟨rfl, hb1.trans (hb3.mono hb1.size)⟩
end Go.Proofs.Ytahfkcfbmklfpaa

/- JournalKeeps holds: what was appended is kept as it was, whatever was done with the bytes in between, and what was told may be changed: whatever bytes and lists the law is called with, it answers true and changes nothing. No condition. -/
namespace Go.Proofs.Ytahfkcfbmklfpaa
open Go.ChangeShapes Go.WideShapes Go.ChangeAt Go.RowKit

set_option maxRecDepth 100000 in
theorem journalKeeps_lifted (os : Os) (started : os.Started) (H : Type) (enc : TypeId × Value → H) :
    ReturnsInHanded {} Try.checked os 6 .any (Rows.journalKeepsSpec.pre6 enc Try.prog Try.f6 Rows.journalKeepsRow.domain false) (Rows.journalKeepsSpec.post enc Try.prog Try.f6 false true false false) := by
  refine returnsInHanded_of_change (C := Try.checked) law_own started (by kernel_rfl) Try.func6
    (ChangeSpec.witness6 (enc := enc) (C := Try.checked) false ⟨#[], #[.slice none 0 0, .slice none 0 0], []⟩ 8 (by kernel_rfl) (by kernel_rfl) (by kernel_rfl) (by kernel_rfl)) ?_
  intro W base args ds gs before hval0 hW _ _
  have hval : ∀ (j : Nat) t v, Try.f6.params[j]? = some t → args[j]? = some v → Value.okWide Try.prog W .any base t v := hval0
  have hW' := hW
  obtain ⟨p, q, hA0, hV, rfl, _, _⟩ := hW
  have hlt : ∀ x ∈ p ++ q, x.block < W.heap.size := fun x hx => hW'.lt x hx
  have hA : DataW.TrodAll enc Try.prog W 0 (fun _ => true) true Try.f6.params.toList args.toList ds p := hA0
  rw [Try.params6] at hA hval
  obtain ⟨v0, v1, d0, d1, p0, p1, rfl, rfl, rfl, h0, h1⟩ := trodAll_two hA
  obtain ⟨rfl, rfl⟩ := trodVars_none hV
  obtain ⟨A, l, c, rfl, hat0, hlb, hlm⟩ := open_bytes (hval 0 31 v0 rfl rfl) h0 (fun x hx => hlt x (by simp [hx]))
  obtain ⟨B, L, c2, rfl, hat, hf, hll⟩ := open_lists (hval 1 32 v1 rfl rfl) h1
  clear hA0 hval0
  refine (journalKeeps_any A l c B L c2 hlm hll hlb hf W hat0 hat).mono fun e W' ⟨he, hb⟩ => ?_
  exact ⟨_, he, law_post law_laid (by kernel_rfl) (by kernel_rfl) Try.underlying4 rfl hW' rfl hb⟩

theorem journalKeeps_holds : Rows.JournalKeepsSaid :=
  OpenClaim.holds_of_wide 6 Try.f6 rfl rfl rfl rfl rfl rfl rfl ⟨rfl, rfl, rfl, rfl, rfl⟩ rfl rfl rfl rfl rfl (by kernel_rfl) Try.func6 (by kernel_rfl)
    (of_decide_eq_true (by kernel_rfl)) (by unfold Func.isWrapper; first | (rw [if_pos (by decide +kernel)]; kernel_rfl) | (rw [if_neg (by decide +kernel)]; exact ⟨rfl, rfl⟩))
    (fun os started H enc _ => journalKeeps_lifted os started H enc)
end Go.Proofs.Ytahfkcfbmklfpaa
