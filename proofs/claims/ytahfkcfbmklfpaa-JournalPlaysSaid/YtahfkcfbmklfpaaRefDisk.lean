/- The document's own disk, ropewalkref5.Disk: what it holds, as which cells it lies; the contracts of New, act, Cut. Condition: fewer than 2^40 acts. -/
import Derived.Test.YtahfkcfbmklfpaaCells
import Derived.Test.YtahfkcfbmklfpaaOnly
import Derived.Deep.OwnRows
namespace Go.Proofs.Ytahfkcfbmklfpaa
open Go.RowKit Go.Deep

/-- Two lists, item by item. -/
def Match {α β : Type} (R : α → β → Prop) (a : List α) (b : List β) : Prop := a.length = b.length ∧ ∀ (i : Nat) (x : α) (y : β), a[i]? = some x → b[i]? = some y → R x y
theorem Match.nil {α β : Type} {R : α → β → Prop} : Match R [] [] := ⟨rfl, fun i x y h => by simp at h⟩
theorem Match.mono {α β : Type} {R S : α → β → Prop} {a : List α} {b : List β} (h : Match R a b) (hs : ∀ x y, R x y → S x y) : Match S a b := ⟨h.1, fun i x y h1 h2 => hs x y (h.2 i x y h1 h2)⟩
theorem Match.snoc {α β : Type} {R : α → β → Prop} {a : List α} {b : List β} (h : Match R a b) {x : α} {y : β} (hr : R x y) : Match R (a ++ [x]) (b ++ [y]) := by
  refine ⟨by simp [h.1], fun i u v h1 h2 => ?_⟩
  by_cases hi : i < a.length
  · rw [List.getElem?_append_left hi] at h1
    rw [List.getElem?_append_left (by rw [← h.1]; exact hi)] at h2
    exact h.2 i u v h1 h2
  · rw [List.getElem?_append_right (by omega)] at h1
    rw [List.getElem?_append_right (by rw [← h.1]; omega), ← h.1] at h2
    have h0 : i - a.length = 0 := by have := (List.getElem?_eq_some_iff.1 h1).1; simp at this; omega
    rw [h0] at h1 h2
    injection h1 with h1
    injection h2 with h2
    rw [← h1, ← h2]; exact hr
theorem Match.set {α β : Type} {R : α → β → Prop} {a : List α} {b : List β} (h : Match R a b) (k : Nat) {x : α} {y : β} (hr : R x y) : Match R (a.set k x) (b.set k y) := by
  refine ⟨by simp [h.1], fun i u v h1 h2 => ?_⟩
  rw [List.getElem?_set] at h1 h2
  by_cases hi : k = i
  · rw [if_pos hi] at h1 h2
    split at h1
    · split at h2
      · injection h1 with h1
        injection h2 with h2
        rw [← h1, ← h2]; exact hr
      · cases h2
    · cases h1
  · rw [if_neg hi] at h1 h2
    exact h.2 i u v h1 h2
theorem Match.get {α β : Type} {R : α → β → Prop} {a : List α} {b : List β} (h : Match R a b) {i : Nat} (hi : i < b.length) : ∃ x, a[i]? = some x ∧ R x b[i] :=
  ⟨a[i]'(by rw [h.1]; exact hi), List.getElem?_eq_getElem _, h.2 i _ _ (List.getElem?_eq_getElem _) (List.getElem?_eq_getElem _)⟩

/-- P5: a disk. A sector that is none is noughts. -/
structure DiskD where
  safe : List (Option (List Nat))
  cache : List (Nat × List Nat)
  left : Int
  off : Bool
  ops : Nat
def DiskD.act (D : DiskD) : DiskD × Nat :=
  if D.off = true ∨ D.left = 0 then (⟨D.safe, D.cache, D.left, true, D.ops + 1⟩, 7) else (⟨D.safe, D.cache, if 0 < D.left then D.left - 1 else D.left, D.off, D.ops + 1⟩, 0)
def DiskD.cut (D : DiskD) (n : Int) : DiskD := ⟨D.safe, D.cache, max n 0, D.off, D.ops⟩
def DiskD.new (n : Nat) : DiskD := ⟨List.replicate n none, [], -1, false, 0⟩

/-- The slice of a sector's bytes, which lie in none of the blocks F. -/
def SecV (F : Nat → Prop) (w : World) (v : Value) (o : Option (List Nat)) : Prop :=
  (o = none ∧ v = .slice none 0 0) ∨ ∃ l b off c, o = some l ∧ v = .slice (some ⟨b, off, none⟩) l.length c ∧ BytesAt w (some ⟨b, off, none⟩) l ∧ ¬F b ∧ l.length = 64 ∧ (∀ x ∈ l, x < 256) ∧ 64 ≤ c
/-- Cells that lie in none of the blocks F. -/
def CellsOff (F : Nat → Prop) (w : World) (A : Option Addr) (l : List Value) : Prop :=
  l = [] ∨ ∃ b off, A = some ⟨b, off, none⟩ ∧ b < w.heap.size ∧ ¬F b ∧ ∀ (j : Nat) (v : Value), l[j]? = some v → w.cell? ⟨b, off + j, none⟩ = some v
theorem CellsOff.at_ {F : Nat → Prop} {w : World} {A : Option Addr} {l : List Value} (h : CellsOff F w A l) : CellsAt w A l := by
  rcases h with h | ⟨b, off, h1, h2, _, h3⟩
  · exact .inl h
  · exact .inr ⟨b, off, h1, h2, h3⟩
theorem CellsAt.off {F : Nat → Prop} {w : World} {A : Option Addr} {l : List Value} (h : CellsAt w A l) (hA : ∀ a, A = some a → ¬F a.block) : CellsOff F w A l := by
  rcases h with h | ⟨b, off, h1, h2, h3⟩
  · exact .inl h
  · exact .inr ⟨b, off, h1, h2, hA _ h1, h3⟩
def recCells (r : Nat × Value) : List Value := [.int .i64 (r.1 : Int), r.2]
theorem recCells_length (r : Nat × Value) : (recCells r).length = 2 := rfl
def diskCells (sA : Option Addr) (sn sc : Nat) (cA : Option Addr) (cn cc : Nat) (left : Int) (off : Bool) (ops : Nat) (j : Nat) : Value :=
  if j = 0 then .slice sA sn sc else if j = 1 then .slice cA cn cc else if j = 2 then .int .i64 left else if j = 3 then .bool off else .int .i64 (ops : Int)
theorem BytesAt.kept {b off : Nat} {w w' : World} {l : List Nat} (h : BytesAt w (some ⟨b, off, none⟩) l) (hs : w.heap.size ≤ w'.heap.size) (hb : b < w.heap.size → w'.heap[b]? = w.heap[b]?) : BytesAt w' (some ⟨b, off, none⟩) l := by
  rcases h with h | ⟨b', off', e, hlt, hc⟩
  · exact .inl h
  · injection e with e
    injection e with e1 e2 e3
    subst e1 e2
    exact .inr ⟨b, off, rfl, Nat.lt_of_lt_of_le hlt hs, fun j c hj => by
      have h1 : w'.cell? ⟨b, off + j, none⟩ = w.cell? ⟨b, off + j, none⟩ := by simp [World.cell?, hb hlt]
      rw [h1]; exact hc j c hj⟩
theorem BytesAt.only {g b off : Nat} {w w' : World} {l : List Nat} (h : BytesAt w (some ⟨b, off, none⟩) l) (ho : Only g w w') (hb : b ≠ g) : BytesAt w' (some ⟨b, off, none⟩) l := h.kept ho.size fun hlt => ho.block b hlt hb
theorem SecV.kept {F F' : Nat → Prop} {w w' : World} {v : Value} {o : Option (List Nat)} (h : SecV F w v o) (hs : w.heap.size ≤ w'.heap.size) (hk : ∀ b, b < w.heap.size → ¬F b → w'.heap[b]? = w.heap[b]?) (hF : ∀ b, F' b → F b ∨ w.heap.size ≤ b) : SecV F' w' v o := by
  rcases h with h | ⟨l, b, off, c, h1, h2, h3, h4, h5, h6, h7⟩
  · exact .inl h
  · have hlt : b < w.heap.size := by
      obtain ⟨b', off', e, hlt⟩ := h3.form (by omega)
      injection e with e
      injection e with e
      subst e
      exact hlt
    exact .inr ⟨l, b, off, c, h1, h2, h3.kept hs fun hlt => hk b hlt h4, fun hb => (hF b hb).elim h4 (by omega), h5, h6, h7⟩
theorem CellsOff.kept {F F' : Nat → Prop} {w w' : World} {A : Option Addr} {l : List Value} (h : CellsOff F w A l) (hs : w.heap.size ≤ w'.heap.size) (hk : ∀ b, b < w.heap.size → ¬F b → w'.heap[b]? = w.heap[b]?) (hF : ∀ b, F' b → F b ∨ w.heap.size ≤ b) : CellsOff F' w' A l := by
  rcases h with h1 | ⟨b, off, rfl, hlt, hf, hc⟩
  · exact .inl h1
  · exact .inr ⟨b, off, rfl, Nat.lt_of_lt_of_le hlt hs, fun hb => (hF b hb).elim hf (by omega), fun j c hj => by
      have h1 : w'.cell? ⟨b, off + j, none⟩ = w.cell? ⟨b, off + j, none⟩ := by simp [World.cell?, hk b hlt hf]
      rw [h1]; exact hc j c hj⟩
theorem SecV.only {F : Nat → Prop} {g : Nat} {w w' : World} {v : Value} {o : Option (List Nat)} (h : SecV F w v o) (ho : Only g w w') (hg : F g) : SecV F w' v o :=
  h.kept ho.size (fun b hb hf => ho.block b hb fun e => hf (e ▸ hg)) fun _ hb => .inl hb
theorem CellsOff.only {F : Nat → Prop} {g : Nat} {w w' : World} {A : Option Addr} {l : List Value} (h : CellsOff F w A l) (ho : Only g w w') (hg : F g) : CellsOff F w' A l :=
  h.kept ho.size (fun b hb hf => ho.block b hb fun e => hf (e ▸ hg)) fun _ hb => .inl hb
theorem bytes_info : (Try.prog.info? 31).map (fun i => (i.zero, i.size, i.bytes)) = some (some (.slice none 0 0), 1, 24) := by kernel_rfl
end Go.Proofs.Ytahfkcfbmklfpaa
