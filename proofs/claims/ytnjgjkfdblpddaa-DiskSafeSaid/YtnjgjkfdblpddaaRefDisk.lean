/- The document's own disk, ropewalkref5.Disk: what it holds, as which cells it lies; the contracts of New, act, Cut. Condition: fewer than 2^40 acts. -/
import Derived.Test.YtnjgjkfdblpddaaCells
import Derived.Test.YtnjgjkfdblpddaaOnly
import Derived.Deep.OwnRows
namespace Go.Proofs.Ytnjgjkfdblpddaa
open Go.RowKit Go.Deep

/-- Two lists, item by item. -/
def Match {α β : Type} (R : α → β → Prop) (a : List α) (b : List β) : Prop := a.length = b.length ∧ ∀ (i : Nat) (x : α) (y : β), a[i]? = some x → b[i]? = some y → R x y
theorem Match.nil {α β : Type} {R : α → β → Prop} : Match R [] [] := ⟨rfl, fun i x y h => by simp at h⟩
theorem Match.mono {α β : Type} {R S : α → β → Prop} {a : List α} {b : List β} (h : Match R a b) (hs : ∀ x y, R x y → S x y) : Match S a b := ⟨h.1, fun i x y h1 h2 => hs x y (h.2 i x y h1 h2)⟩
theorem Match.snoc {α β : Type} {R : α → β → Prop} {a : List α} {b : List β} (h : Match R a b) {x : α} {y : β} (hr : R x y) : Match R (a ++ [x]) (b ++ [y]) := by
  refine ⟨by simp [h.1], fun i u v h1 h2 => ?_⟩
  by_cases hi : i < a.length
  · rw [List.getElem?_append_left hi] at h1
    rw [List.getElem?_append_left (by rw [← h.1]; exact hi)] at h2
    exact h.2 i u v h1 h2
  · rw [List.getElem?_append_right (by omega)] at h1
    rw [List.getElem?_append_right (by rw [← h.1]; omega), ← h.1] at h2
    have h0 : i - a.length = 0 := by have := (List.getElem?_eq_some_iff.1 h1).1; simp at this; omega
    rw [h0] at h1 h2
    injection h1 with h1
    injection h2 with h2
    rw [← h1, ← h2]; exact hr
theorem Match.set {α β : Type} {R : α → β → Prop} {a : List α} {b : List β} (h : Match R a b) (k : Nat) {x : α} {y : β} (hr : R x y) : Match R (a.set k x) (b.set k y) := by
  refine ⟨by simp [h.1], fun i u v h1 h2 => ?_⟩
  rw [List.getElem?_set] at h1 h2
  by_cases hi : k = i
  · rw [if_pos hi] at h1 h2
    split at h1
    · split at h2
      · injection h1 with h1
        injection h2 with h2
        rw [← h1, ← h2]; exact hr
      · cases h2
    · cases h1
  · rw [if_neg hi] at h1 h2
    exact h.2 i u v h1 h2
theorem Match.get {α β : Type} {R : α → β → Prop} {a : List α} {b : List β} (h : Match R a b) {i : Nat} (hi : i < b.length) : ∃ x, a[i]? = some x ∧ R x b[i] :=
  ⟨a[i]'(by rw [h.1]; exact hi), List.getElem?_eq_getElem _, h.2 i _ _ (List.getElem?_eq_getElem _) (List.getElem?_eq_getElem _)⟩

/-- P5: a disk. A sector that is none is noughts. -/
structure DiskD where
  safe : List (Option (List Nat))
  cache : List (Nat × List Nat)
  left : Int
  off : Bool
  ops : Nat
def DiskD.act (D : DiskD) : DiskD × Nat :=
  if D.off = true ∨ D.left = 0 then (⟨D.safe, D.cache, D.left, true, D.ops + 1⟩, 7) else (⟨D.safe, D.cache, if 0 < D.left then D.left - 1 else D.left, D.off, D.ops + 1⟩, 0)
def DiskD.cut (D : DiskD) (n : Int) : DiskD := ⟨D.safe, D.cache, max n 0, D.off, D.ops⟩
def DiskD.new (n : Nat) : DiskD := ⟨List.replicate n none, [], -1, false, 0⟩

/-- The slice of a sector's bytes, which lie in none of the blocks F. -/
def SecV (F : Nat → Prop) (w : World) (v : Value) (o : Option (List Nat)) : Prop :=
  (o = none ∧ v = .slice none 0 0) ∨ ∃ l b off c, o = some l ∧ v = .slice (some ⟨b, off, none⟩) l.length c ∧ BytesAt w (some ⟨b, off, none⟩) l ∧ ¬F b ∧ l.length = 64 ∧ (∀ x ∈ l, x < 256) ∧ 64 ≤ c
/-- Cells that lie in none of the blocks F. -/
def CellsOff (F : Nat → Prop) (w : World) (A : Option Addr) (l : List Value) : Prop :=
  l = [] ∨ ∃ b off, A = some ⟨b, off, none⟩ ∧ b < w.heap.size ∧ ¬F b ∧ ∀ (j : Nat) (v : Value), l[j]? = some v → w.cell? ⟨b, off + j, none⟩ = some v
theorem CellsOff.at_ {F : Nat → Prop} {w : World} {A : Option Addr} {l : List Value} (h : CellsOff F w A l) : CellsAt w A l := by
  rcases h with h | ⟨b, off, h1, h2, _, h3⟩
  · exact .inl h
  · exact .inr ⟨b, off, h1, h2, h3⟩
theorem CellsAt.off {F : Nat → Prop} {w : World} {A : Option Addr} {l : List Value} (h : CellsAt w A l) (hA : ∀ a, A = some a → ¬F a.block) : CellsOff F w A l := by
  rcases h with h | ⟨b, off, h1, h2, h3⟩
  · exact .inl h
  · exact .inr ⟨b, off, h1, h2, hA _ h1, h3⟩
def recCells (r : Nat × Value) : List Value := [.int .i64 (r.1 : Int), r.2]
theorem recCells_length (r : Nat × Value) : (recCells r).length = 2 := rfl
def diskCells (sA : Option Addr) (sn sc : Nat) (cA : Option Addr) (cn cc : Nat) (left : Int) (off : Bool) (ops : Nat) (j : Nat) : Value :=
  if j = 0 then .slice sA sn sc else if j = 1 then .slice cA cn cc else if j = 2 then .int .i64 left else if j = 3 then .bool off else .int .i64 (ops : Int)
/-- The block g of five cells holds the disk, the rest of which lies in none of the blocks F, g among them. -/
def DiskAt (F : Nat → Prop) (g : Nat) (D : DiskD) (w : World) : Prop :=
  F g ∧ (∀ b, F b → b < w.heap.size) ∧ ∃ sA sc cA cc vs rs, w.rowIs g 59 5 (diskCells sA D.safe.length sc cA D.cache.length cc D.left D.off D.ops) ∧
    CellsOff F w sA vs ∧ Match (SecV F w) vs D.safe ∧ CellsOff F w cA (rs.flatMap recCells) ∧ Match (fun (r : Nat × Value) p => r.1 = p.1 ∧ SecV F w r.2 (some p.2)) rs D.cache

theorem BytesAt.kept {b off : Nat} {w w' : World} {l : List Nat} (h : BytesAt w (some ⟨b, off, none⟩) l) (hs : w.heap.size ≤ w'.heap.size) (hb : b < w.heap.size → w'.heap[b]? = w.heap[b]?) : BytesAt w' (some ⟨b, off, none⟩) l := by
  rcases h with h | ⟨b', off', e, hlt, hc⟩
  · exact .inl h
  · injection e with e
    injection e with e1 e2 e3
    subst e1 e2
    exact .inr ⟨b, off, rfl, Nat.lt_of_lt_of_le hlt hs, fun j c hj => by
      have h1 : w'.cell? ⟨b, off + j, none⟩ = w.cell? ⟨b, off + j, none⟩ := by simp [World.cell?, hb hlt]
      rw [h1]; exact hc j c hj⟩
theorem BytesAt.only {g b off : Nat} {w w' : World} {l : List Nat} (h : BytesAt w (some ⟨b, off, none⟩) l) (ho : Only g w w') (hb : b ≠ g) : BytesAt w' (some ⟨b, off, none⟩) l := h.kept ho.size fun hlt => ho.block b hlt hb
theorem SecV.kept {F F' : Nat → Prop} {w w' : World} {v : Value} {o : Option (List Nat)} (h : SecV F w v o) (hs : w.heap.size ≤ w'.heap.size) (hk : ∀ b, b < w.heap.size → ¬F b → w'.heap[b]? = w.heap[b]?) (hF : ∀ b, F' b → F b ∨ w.heap.size ≤ b) : SecV F' w' v o := by
  rcases h with h | ⟨l, b, off, c, h1, h2, h3, h4, h5, h6, h7⟩
  · exact .inl h
  · have hlt : b < w.heap.size := by
      obtain ⟨b', off', e, hlt⟩ := h3.form (by omega)
      injection e with e
      injection e with e
      subst e
      exact hlt
    exact .inr ⟨l, b, off, c, h1, h2, h3.kept hs fun hlt => hk b hlt h4, fun hb => (hF b hb).elim h4 (by omega), h5, h6, h7⟩
theorem CellsOff.kept {F F' : Nat → Prop} {w w' : World} {A : Option Addr} {l : List Value} (h : CellsOff F w A l) (hs : w.heap.size ≤ w'.heap.size) (hk : ∀ b, b < w.heap.size → ¬F b → w'.heap[b]? = w.heap[b]?) (hF : ∀ b, F' b → F b ∨ w.heap.size ≤ b) : CellsOff F' w' A l := by
  rcases h with h1 | ⟨b, off, rfl, hlt, hf, hc⟩
  · exact .inl h1
  · exact .inr ⟨b, off, rfl, Nat.lt_of_lt_of_le hlt hs, fun hb => (hF b hb).elim hf (by omega), fun j c hj => by
      have h1 : w'.cell? ⟨b, off + j, none⟩ = w.cell? ⟨b, off + j, none⟩ := by simp [World.cell?, hk b hlt hf]
      rw [h1]; exact hc j c hj⟩
theorem SecV.only {F : Nat → Prop} {g : Nat} {w w' : World} {v : Value} {o : Option (List Nat)} (h : SecV F w v o) (ho : Only g w w') (hg : F g) : SecV F w' v o :=
  h.kept ho.size (fun b hb hf => ho.block b hb fun e => hf (e ▸ hg)) fun _ hb => .inl hb
theorem CellsOff.only {F : Nat → Prop} {g : Nat} {w w' : World} {A : Option Addr} {l : List Value} (h : CellsOff F w A l) (ho : Only g w w') (hg : F g) : CellsOff F w' A l :=
  h.kept ho.size (fun b hb hf => ho.block b hb fun e => hf (e ▸ hg)) fun _ hb => .inl hb
/-- The same sectors and writes, other numbers. -/
theorem DiskAt.nums {F : Nat → Prop} {g : Nat} {D : DiskD} {w w' : World} {left : Int} {off : Bool} {ops : Nat} (h : DiskAt F g D w) (ho : Only g w w')
    (hr : ∀ sA sn sc cA cn cc, w.rowIs g 59 5 (diskCells sA sn sc cA cn cc D.left D.off D.ops) → w'.rowIs g 59 5 (diskCells sA sn sc cA cn cc left off ops)) : DiskAt F g ⟨D.safe, D.cache, left, off, ops⟩ w' := by
  obtain ⟨hg, hl, sA, sc, cA, cc, vs, rs, h1, h2, h3, h4, h5⟩ := h
  exact ⟨hg, fun b hb => Nat.lt_of_lt_of_le (hl b hb) ho.size, sA, sc, cA, cc, vs, rs, hr _ _ _ _ _ _ h1, h2.only ho hg, h3.mono fun x y h => h.only ho hg, h4.only ho hg, h5.mono fun x y h => ⟨h.1, h.2.only ho hg⟩⟩
/-- Whatever was written in the blocks F, but for g: the disk is as it was; new blocks may be among them from now on. -/
theorem DiskAt.kept {F F' : Nat → Prop} {g : Nat} {D : DiskD} {w w' : World} (h : DiskAt F g D w) (hs : w.heap.size ≤ w'.heap.size) (hk : ∀ b, b < w.heap.size → (¬F b ∨ b = g) → w'.heap[b]? = w.heap[b]?) (hF : ∀ b, F' b → F b ∨ w.heap.size ≤ b) (hl : ∀ b, F' b → b < w'.heap.size) (hg : F' g) : DiskAt F' g D w' := by
  obtain ⟨hg0, hl0, sA, sc, cA, cc, vs, rs, h1, h2, h3, h4, h5⟩ := h
  have hk' : ∀ b, b < w.heap.size → ¬F b → w'.heap[b]? = w.heap[b]? := fun b hb hf => hk b hb (.inl hf)
  exact ⟨hg, hl, sA, sc, cA, cc, vs, rs, h1.of_block (hk g h1.lt (.inr rfl)), h2.kept hs hk' hF, h3.mono fun x y h => h.kept hs hk' hF, h4.kept hs hk' hF, h5.mono fun x y h => ⟨h.1, h.2.kept hs hk' hF⟩⟩
theorem DiskAt.below {F : Nat → Prop} {g : Nat} {D : DiskD} {w w' : World} (h : DiskAt F g D w) (hb : Below w.heap.size w w') : DiskAt F g D w' :=
  h.kept hb.size (fun b hlt _ => hb.block b hlt) (fun _ h => .inl h) (fun b hf => Nat.lt_of_lt_of_le (h.2.1 b hf) hb.size) h.1
theorem DiskAt.lt {F : Nat → Prop} {g : Nat} {D : DiskD} {w : World} (h : DiskAt F g D w) : g < w.heap.size := h.2.1 g h.1

set_option maxHeartbeats 1000000 in
set_option maxRecDepth 100000 in
theorem refAct_any (F : Nat → Prop) (g : Nat) (D : DiskD) (hops : D.ops ≤ 1099511627776) (hleft : -1 ≤ D.left ∧ D.left ≤ 9223372036854775807) (w : World) (h : DiskAt F g D w) :
    Calls Try.prog 38 #[.pointer (some ⟨g, 0, none⟩)] w fun e w' => e = .returned (.int .i64 (D.act.2 : Nat)) ∧ DiskAt F g D.act.1 w' ∧ Only g w w' := by
  have H := Lib.hid h
  obtain ⟨_, _, sA, sc, cA, cc, vs, rs, h1, _⟩ := h
  obtain ⟨S, C, L, O, K⟩ := D
  simp only at hops hleft h1
  have HR := Lib.hid h1
  have c4 := h1.cell (i := 4) (by omega)
  rw [show diskCells sA S.length sc cA C.length cc L O K 4 = .int .i64 (K : Int) from rfl] at c4
  have f4 := h1.frozen 4
  have r1 := h1.set 4 (.int .i64 ((K : Int) + 1))
  have d2 : (w.setCell ⟨g, 4, none⟩ (.int .i64 ((K : Int) + 1))).cell? ⟨g, 2, none⟩ = some (.int .i64 L) := (r1.cell (i := 2) (by omega)).trans rfl
  have d3 : (w.setCell ⟨g, 4, none⟩ (.int .i64 ((K : Int) + 1))).cell? ⟨g, 3, none⟩ = some (.bool O) := (r1.cell (i := 3) (by omega)).trans rfl
  have g2 := r1.frozen 2
  have g3 := r1.frozen 3
  clear h1 r1
  by_cases hO : O = true
  · subst hO
    have e : Hid (DiskD.act ⟨S, C, L, true, K⟩ = (⟨S, C, L, true, K + 1⟩, 7)) := by show _ = _; rw [DiskD.act, if_pos (.inl rfl)]
    rw [e.out]
    go_enter Try.func38, Try.ntmps38
    go_wp2
    go_ret
    refine ⟨rfl, H.out.nums (((Only.refl g w).set 4 _).set 3 _) fun _ _ _ _ _ _ hf => ((hf.set 4 _).set 3 _).congr fun i hi => ?_, ((Only.refl g w).set 4 _).set 3 _⟩
    have : i = 0 ∨ i = 1 ∨ i = 2 ∨ i = 3 ∨ i = 4 := by omega
    rcases this with rfl | rfl | rfl | rfl | rfl <;> rfl
  obtain rfl : O = false := by cases O; rfl; exact absurd rfl hO
  by_cases h0 : L = 0
  · subst h0
    have e : Hid (DiskD.act ⟨S, C, 0, false, K⟩ = (⟨S, C, 0, true, K + 1⟩, 7)) := by show _ = _; rw [DiskD.act, if_pos (.inr rfl)]
    rw [e.out]
    go_enter Try.func38, Try.ntmps38
    go_wp2
    go_ret
    refine ⟨rfl, H.out.nums (((Only.refl g w).set 4 _).set 3 _) fun _ _ _ _ _ _ hf => ((hf.set 4 _).set 3 _).congr fun i hi => ?_, ((Only.refl g w).set 4 _).set 3 _⟩
    have : i = 0 ∨ i = 1 ∨ i = 2 ∨ i = 3 ∨ i = 4 := by omega
    rcases this with rfl | rfl | rfl | rfl | rfl <;> rfl
  · have h0' : (L == 0) = false := beq_eq_false_iff_ne.2 h0
    by_cases hp : 0 < L
    · have e : Hid (DiskD.act ⟨S, C, L, false, K⟩ = (⟨S, C, L - 1, false, K + 1⟩, 0)) := by
        show _ = _
        rw [DiskD.act, if_neg (by simp [h0])]
        simp only [if_pos hp]
      rw [e.out]
      go_enter Try.func38, Try.ntmps38
      go_wp2
      go_ret
      refine ⟨rfl, H.out.nums (((Only.refl g w).set 4 _).set 2 _) fun _ _ _ _ _ _ hf => ((hf.set 4 _).set 2 _).congr fun i hi => ?_, ((Only.refl g w).set 4 _).set 2 _⟩
      have : i = 0 ∨ i = 1 ∨ i = 2 ∨ i = 3 ∨ i = 4 := by omega
      rcases this with rfl | rfl | rfl | rfl | rfl <;> rfl
    · have e : Hid (DiskD.act ⟨S, C, L, false, K⟩ = (⟨S, C, L, false, K + 1⟩, 0)) := by
        show _ = _
        rw [DiskD.act, if_neg (by simp [h0])]
        simp only [if_neg hp]
      rw [e.out]
      go_enter Try.func38, Try.ntmps38
      go_wp2
      go_ret
      refine ⟨rfl, H.out.nums ((Only.refl g w).set 4 _) fun _ _ _ _ _ _ hf => (hf.set 4 _).congr fun i hi => ?_, (Only.refl g w).set 4 _⟩
      have : i = 0 ∨ i = 1 ∨ i = 2 ∨ i = 3 ∨ i = 4 := by omega
      rcases this with rfl | rfl | rfl | rfl | rfl <;> rfl

set_option maxRecDepth 100000 in
theorem refCut_any (F : Nat → Prop) (g : Nat) (D : DiskD) (n : Int) (w : World) (h : DiskAt F g D w) :
    Calls Try.prog 26 #[.pointer (some ⟨g, 0, none⟩), .int .i64 n] w fun e w' => e = .returned (.tuple #[]) ∧ DiskAt F g (D.cut n) w' ∧ Only g w w' := by
  have H := Lib.hid h
  obtain ⟨_, _, sA, sc, cA, cc, vs, rs, h1, _⟩ := h
  have c2 := h1.cell (i := 2) (by omega)
  rw [show diskCells sA D.safe.length sc cA D.cache.length cc D.left D.off D.ops 2 = .int .i64 D.left from rfl] at c2
  have f2 := h1.frozen 2
  clear h1
  rcases Int.lt_or_le n 0 with hn | hn
  · have e : Hid (D.cut n = ⟨D.safe, D.cache, 0, D.off, D.ops⟩) := by show _ = _; rw [DiskD.cut, Int.max_eq_right (by omega)]
    rw [e.out]
    go_enter Try.func26, Try.ntmps26
    go_wp2
    go_end0
    refine ⟨rfl, H.out.nums ((Only.refl g w).set 2 _) fun _ _ _ _ _ _ hf => (hf.set 2 _).congr fun i hi => ?_, (Only.refl g w).set 2 _⟩
    have : i = 0 ∨ i = 1 ∨ i = 2 ∨ i = 3 ∨ i = 4 := by omega
    rcases this with rfl | rfl | rfl | rfl | rfl <;> rfl
  · have e : Hid (D.cut n = ⟨D.safe, D.cache, n, D.off, D.ops⟩) := by show _ = _; rw [DiskD.cut, Int.max_eq_left (by omega)]
    rw [e.out]
    go_enter Try.func26, Try.ntmps26
    go_wp2
    go_end0
    refine ⟨rfl, H.out.nums ((Only.refl g w).set 2 _) fun _ _ _ _ _ _ hf => (hf.set 2 _).congr fun i hi => ?_, (Only.refl g w).set 2 _⟩
    have : i = 0 ∨ i = 1 ∨ i = 2 ∨ i = 3 ∨ i = 4 := by omega
    rcases this with rfl | rfl | rfl | rfl | rfl <;> rfl

theorem bytes_info : (Try.prog.info? 41).map (fun i => (i.zero, i.size, i.bytes)) = some (some (.slice none 0 0), 1, 24) := by kernel_rfl
/-- What New tells: none and an error, or a disk of noughts. -/
def NewEnd (n : Int) (w : World) (e : Ending) (w' : World) : Prop :=
  ((n < 1 ∨ 65536 < n) ∧ e = .returned (.tuple #[.pointer none, .int .i64 1]) ∧ w = w') ∨
  ∃ (k g : Nat), n = (k : Int) ∧ 1 ≤ k ∧ k ≤ 65536 ∧ e = .returned (.tuple #[.pointer (some ⟨g, 0, none⟩), .int .i64 0]) ∧ (∀ F : Nat → Prop, F g → (∀ b, F b → b < w.heap.size ∨ b = g) → DiskAt F g (DiskD.new k) w') ∧ w.heap.size ≤ g ∧ g < w'.heap.size ∧ Below w.heap.size w w'
set_option maxRecDepth 100000 in
theorem refNew_any (n : Int) (w : World) : Calls Try.prog 10 #[.int .i64 n] w (NewEnd n w) := by
  by_cases h1 : n < 1
  · go_enter Try.func10, Try.ntmps10
    go_wp2
    go_ret2
    exact .inl ⟨.inl h1, rfl, rfl⟩
  by_cases h2 : 65536 < n
  · go_enter Try.func10, Try.ntmps10
    go_wp2
    go_ret2
    exact .inl ⟨.inr h2, rfl, rfl⟩
  obtain ⟨k, rfl⟩ : ∃ k : Nat, n = (k : Int) := ⟨n.toNat, by omega⟩
  have hmk := run_make_row' (P := Try.prog) 56 41 (.slice none 0 0) 24 Try.underlying56 bytes_info rfl .i64 .i64 k (by omega) (by omega)
  go_enter Try.func10, Try.ntmps10
  go_wp2
  go_ret2
  have hrow := (World.rowIs_made w (.slice none 0 0) k 41).alloc (.cells #[.slice (some ⟨w.heap.size, 0, none⟩) k k, .slice none 0 0, .int .i64 (-1), .bool false, .int .i64 0] 59)
  have hb : Below w.heap.size w ((w.alloc (.cells (madeCells #[.slice none 0 0] k) 41)).alloc (.cells #[.slice (some ⟨w.heap.size, 0, none⟩) k k, .slice none 0 0, .int .i64 (-1), .bool false, .int .i64 0] 59)) :=
    ((Below.refl _ _).alloc (Nat.le_refl _) _).alloc (by simp) _
  have hd := World.rowIs_alloc (w.alloc (.cells (madeCells #[.slice none 0 0] k) 41)) #[.slice (some ⟨w.heap.size, 0, none⟩) k k, .slice none 0 0, .int .i64 (-1), .bool false, .int .i64 0] 59
    (diskCells (some ⟨w.heap.size, 0, none⟩) (DiskD.new k).safe.length k none 0 0 (-1) false 0) (fun i hi => by
      have : i = 0 ∨ i = 1 ∨ i = 2 ∨ i = 3 ∨ i = 4 := by simp at hi; omega
      rcases this with rfl | rfl | rfl | rfl | rfl
      · simp [diskCells, DiskD.new]
      all_goals rfl)
  rw [show (w.alloc (.cells (madeCells #[.slice none 0 0] k) 41)).heap.size = w.heap.size + 1 by simp] at hd
  refine .inr ⟨k, w.heap.size + 1, rfl, by omega, by omega, rfl, fun F hFg hFl => ⟨hFg, fun b hb => ?_, some ⟨w.heap.size, 0, none⟩, k, none, 0, List.replicate k (.slice none 0 0), [], hd, ?_, ⟨by simp [DiskD.new], fun i x y h1 h2 => ?_⟩, .inl rfl, Match.nil⟩, by omega, by simp, hb⟩
  · rcases hFl b hb with h | h
    · have := hb
      simp
      omega
    · subst h
      simp
  · refine CellsAt.off ?_ fun a ha hf => ?_
    · refine .inr ⟨w.heap.size, 0, rfl, hrow.lt, fun j v hj => ?_⟩
      rw [List.getElem?_replicate] at hj
      split at hj
      · rename_i hjk
        injection hj with hj
        rw [Nat.zero_add, hrow.cell hjk, hj]
      · cases hj
    · injection ha with ha
      subst ha
      rcases hFl _ hf with h | h
      · exact absurd h (Nat.lt_irrefl _)
      · have h : w.heap.size = w.heap.size + 1 := h
        omega
  · have hik : i < k := by have := (List.getElem?_eq_some_iff.1 h1).1; simpa using this
    rw [List.getElem?_replicate, if_pos hik] at h1
    have h3 : (List.replicate k (none : Option (List Nat)))[i]? = some y := h2
    rw [List.getElem?_replicate, if_pos hik] at h3
    injection h1 with h1
    injection h3 with h3
    exact .inl ⟨h3.symm, h1.symm⟩
end Go.Proofs.Ytnjgjkfdblpddaa
