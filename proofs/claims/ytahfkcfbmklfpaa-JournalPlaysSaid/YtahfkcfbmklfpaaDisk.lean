/- The landed disk: what it holds, as which cells it lies, and in which blocks; what calls leave alone. No condition beyond those that each lemma states. -/
import Derived.Test.YtahfkcfbmklfpaaCrashMath
import Derived.Deep.MidRow
namespace Go.Proofs.Ytahfkcfbmklfpaa
open Go.RowKit Go.Deep

/-- What a call leaves alone: all but the blocks O. -/
structure Off (O : Nat → Prop) (w w' : World) : Prop where
  os : w'.os = w.os
  tape : w'.tape = w.tape
  output : w'.output = w.output
  size : w.heap.size ≤ w'.heap.size
  block : ∀ k, k < w.heap.size → ¬O k → w'.heap[k]? = w.heap[k]?
theorem Off.refl (O : Nat → Prop) (w : World) : Off O w w := ⟨rfl, rfl, rfl, Nat.le_refl _, fun _ _ _ => rfl⟩
theorem Off.of_below {O : Nat → Prop} {w w' : World} (h : Below w.heap.size w w') : Off O w w' := ⟨h.os, h.tape, h.output, h.size, fun k hk _ => h.block k hk⟩
theorem Off.of_only {O : Nat → Prop} {g : Nat} {w w' : World} (h : Only g w w') (hg : O g) : Off O w w' := ⟨h.os, h.tape, h.output, h.size, fun k hk hf => h.block k hk fun e => hf (e ▸ hg)⟩
/-- Step by step; what is new may be written by the next step. -/
theorem Off.trans {O O' : Nat → Prop} {a b c : World} (h : Off O a b) (k : Off O' b c) (hO : ∀ x, O' x → O x ∨ a.heap.size ≤ x) : Off O a c :=
  ⟨k.os.trans h.os, k.tape.trans h.tape, k.output.trans h.output, Nat.le_trans h.size k.size, fun i hi hf => (k.block i (Nat.lt_of_lt_of_le hi h.size) fun ho => (hO i ho).elim hf (by omega)).trans (h.block i hi hf)⟩
theorem Off.below {O : Nat → Prop} {W w w' : World} (h : Off O w w') (hb : Below W.heap.size W w) (hO : ∀ x, O x → W.heap.size ≤ x) : Below W.heap.size W w' :=
  hb.trans ⟨h.os, h.tape, h.output, h.size, fun k hk => h.block k (Nat.lt_of_lt_of_le hk hb.size) fun ho => by have := hO k ho; omega⟩

theorem Only.cells {b : Nat} : ∀ (vs : List Value) (o : Nat) (w : World), Only b w (w.setCells b o vs)
  | [], _, w => Only.refl b w
  | v :: r, o, w => ((Only.refl b w).set o v).trans (Only.cells r (o + 1) _)

theorem rangeAt_kept {w w' : World} {b o : Nat} {cs : List Value} (h : w.rangeAt b o cs) (e : w'.heap[b]? = w.heap[b]?) : w'.rangeAt b o cs := fun j v hv => (cell_of_block e _).trans (h j v hv)
theorem there_kept {w w' : World} {b o n : Nat} (h : w.there b o n) (e : w'.heap[b]? = w.heap[b]?) : w'.there b o n := fun j hj => by
  rw [cell_of_block e, frozen_of_block e]; exact h j hj

/-- A row of sectors in a block. -/
def SecRow (w : World) (b : Nat) (s : List (List Nat)) : Prop :=
  b < w.heap.size ∧ (∀ (i : Nat) (x : List Nat), s[i]? = some x → x.length = 64 ∧ w.rangeAt b (i * 64) (u8s x)) ∧ w.there b 0 (s.length * 64)
theorem SecRow.kept {w w' : World} {b : Nat} {s : List (List Nat)} (h : SecRow w b s) (hs : w.heap.size ≤ w'.heap.size) (e : w'.heap[b]? = w.heap[b]?) : SecRow w' b s :=
  ⟨Nat.lt_of_lt_of_le h.1 hs, fun i x hx => ⟨(h.2.1 i x hx).1, rangeAt_kept (h.2.1 i x hx).2 e⟩, there_kept h.2.2 e⟩
theorem SecRow.there {w : World} {b : Nat} {s : List (List Nat)} (h : SecRow w b s) {i : Nat} (hi : i < s.length) {n : Nat} (hn : n ≤ 64) : w.there b (i * 64) n := fun j hj => by
  have := h.2.2 (i * 64 + j) (by have : (i + 1) * 64 ≤ s.length * 64 := Nat.mul_le_mul_right _ hi; omega)
  rwa [Nat.zero_add] at this
/-- The beginning of a sector is written. -/
theorem SecRow.put {w : World} {b : Nat} {s : List (List Nat)} (h : SecRow w b s) {i : Nat} {x : List Nat} (hi : s[i]? = some x) (y : List Nat) (hy : y.length ≤ 64) :
    SecRow (w.setCells b (i * 64) (u8s y)) b (s.set i (y ++ x.drop y.length)) := by
  have hil : i < s.length := (List.getElem?_eq_some_iff.1 hi).1
  have ho : Only b w (w.setCells b (i * 64) (u8s y)) := Only.cells _ _ _
  have hth := h.there hil (n := y.length) hy
  refine ⟨Nat.lt_of_lt_of_le h.1 ho.size, fun k z hz => ?_, ?_⟩
  · rw [List.getElem?_set] at hz
    by_cases hk : i = k
    · subst hk
      rw [if_pos rfl, if_pos hil] at hz
      injection hz with hz
      subst hz
      obtain ⟨hx, hr⟩ := h.2.1 i x hi
      refine ⟨by rw [List.length_append, List.length_drop]; omega, fun j v hv => ?_⟩
      have hjl : j < 64 := by
        have := (List.getElem?_eq_some_iff.1 hv).1
        rw [u8s_length, List.length_append, List.length_drop] at this
        omega
      by_cases hj : j < y.length
      · rw [World.cell?_setCells_in b (u8s y) (i * 64) w (fun q hq => (hth q (by rwa [u8s_length] at hq)).1) j (by rw [u8s_length]; exact hj)]
        rw [u8s_append, List.getElem?_append_left (by rw [u8s_length]; exact hj), List.getElem?_eq_getElem (by rw [u8s_length]; exact hj)] at hv
        exact hv
      · rw [World.cell?_setCells_out b (u8s y) (i * 64) w _ (fun _ _ => .inr (by rw [u8s_length]; show i * 64 + y.length ≤ i * 64 + j; omega))]
        refine hr j v ?_
        rw [u8s_append, List.getElem?_append_right (by rw [u8s_length]; omega), u8s_length, u8s, List.getElem?_map, List.getElem?_drop, show y.length + (j - y.length) = j by omega] at hv
        rw [u8s, List.getElem?_map]
        exact hv
    · rw [if_neg hk] at hz
      obtain ⟨hx, hr⟩ := h.2.1 k z hz
      refine ⟨hx, World.rangeAt_setCells_apart hr b (i * 64) (u8s y) (.inr ?_)⟩
      rw [u8s_length, u8s_length, hx]
      rcases Nat.lt_or_gt_of_ne hk with h1 | h1
      · right
        have : (i + 1) * 64 ≤ k * 64 := Nat.mul_le_mul_right _ h1
        omega
      · left
        have : (k + 1) * 64 ≤ i * 64 := Nat.mul_le_mul_right _ h1
        omega
  · rw [List.length_set]
    exact World.there_setCells h.2.2 _ _ _

theorem flatm_get {α : Type} (g : α → List Value) (k : Nat) : ∀ (l : List α), (∀ x ∈ l, (g x).length = k) → ∀ (i : Nat) (hi : i < l.length) (f : Nat), f < k → (l.flatMap g)[i * k + f]? = (g l[i])[f]? := by
  intro l
  induction l with
  | nil => intro _ i hi; simp at hi
  | cons x l ih =>
    intro hg i hi f hf
    have hx := hg x (by simp)
    rw [List.flatMap_cons]
    cases i with
    | zero => rw [Nat.zero_mul, Nat.zero_add, List.getElem?_append_left (by rw [hx]; exact hf)]; rfl
    | succ i =>
      rw [List.getElem?_append_right (by rw [hx, Nat.succ_mul]; omega), hx, show (i + 1) * k + f - k = i * k + f by rw [Nat.succ_mul]; omega, ih (fun y hy => hg y (by simp [hy])) i (by simpa using hi) f hf]
      rfl
theorem flatm_length {α : Type} (g : α → List Value) (k : Nat) (l : List α) (hg : ∀ x ∈ l, (g x).length = k) : (l.flatMap g).length = l.length * k := by
  induction l with
  | nil => simp
  | cons x l ih => rw [List.flatMap_cons, List.length_append, hg x (by simp), ih (fun y hy => hg y (by simp [hy])), List.length_cons, Nat.succ_mul]; omega
/-- A row of sectors out of its cells. -/
theorem SecRow.of_own {w : World} {base b n c : Nat} {s : List (List Nat)} (h : w.ownsRow base 76 64 (.slice (some ⟨b, 0, none⟩) n c) n (s.flatMap u8s)) (h64 : ∀ x ∈ s, x.length = 64) (hn : n = s.length) : SecRow w b s := by
  have hg : ∀ x ∈ s, (u8s x).length = 64 := fun x hx => by rw [u8s_length]; exact h64 x hx
  rcases h.2 with ⟨e, _⟩ | ⟨g, cap, cur, hv, _, hh, hnc, _, hcs, htk⟩
  · cases e
  · injection hv with hv _ hc
    injection hv with hv
    injection hv with hv
    subst hv hc
    refine ⟨(Array.getElem?_eq_some_iff.1 hh).1, fun i x hx => ⟨h64 x (List.mem_of_getElem? hx), fun j v hv => ?_⟩, fun j hj => ⟨?_, ?_⟩⟩
    · obtain ⟨hil, rfl⟩ := List.getElem?_eq_some_iff.1 hx
      have hj : j < 64 := by rw [← hg _ (List.getElem_mem hil)]; exact (List.getElem?_eq_some_iff.1 hv).1
      rw [← flatm_get u8s 64 s hg i hil j hj] at hv
      rw [← htk, List.getElem?_take] at hv
      split at hv
      · simpa [World.cell?, hh] using hv
      · cases hv
    · rw [Nat.zero_add]
      have : j < cur.size := by
        have : n * 64 ≤ c * 64 := Nat.mul_le_mul_right _ hnc
        rw [← hn] at hj
        omega
      simp [World.cell?, hh, this]
    · simp [World.frozen?, hh]

/-- The bytes that stand in all sectors, of what is safe, of what was written last. -/
def safeL (D : DiskD) : List (List Nat) := D.safe.map secB
def nowL (D : DiskD) : List (List Nat) := (fold D.cache D.safe).map secB
/-- The cells of a write in the cache. -/
def wrCells (p : Nat × List Nat) : List Value := .int .i64 (p.1 : Int) :: u8s p.2
def landCells (bs sc bn nc n : Nat) (cA : Option Addr) (m cc ops : Nat) (cut : Bool) (left : Int) (off : Bool) (j : Nat) : Value :=
  if j = 0 then .slice (some ⟨bs, 0, none⟩) n sc else if j = 1 then .slice (some ⟨bn, 0, none⟩) n nc else if j = 2 then .slice cA m cc else if j = 3 then .int .i64 (ops : Int) else if j = 4 then .bool cut else if j = 5 then .int .i64 left else .bool off
/-- The power, as the landed disk keeps it. -/
def Power (D : DiskD) (cut : Bool) (left : Int) : Prop := 0 ≤ left ∧ left ≤ 9223372036854775807 ∧ ((cut = false ∧ D.left = -1 ∧ D.off = false) ∨ (cut = true ∧ (D.off = true ∨ left = D.left)))
/-- What a disk is like that was made by New and its methods. -/
structure DiskD.Fit (D : DiskD) : Prop where
  pos : 0 < D.safe.length
  most : D.safe.length ≤ 65536
  safe : ∀ o ∈ D.safe, (secB o).length = 64
  cache : ∀ p ∈ D.cache, p.1 < D.safe.length ∧ p.2.length = 64
/-- The block g of seven cells holds the disk; all of it lies in blocks of O. -/
def LandAt (O : Nat → Prop) (g : Nat) (D : DiskD) (w : World) : Prop :=
  O g ∧ (∀ b, O b → b < w.heap.size) ∧ ∃ bs sc bn nc cA cc cut left, O bs ∧ O bn ∧ (∀ a, cA = some a → O a.block) ∧ bs ≠ bn ∧ bs ≠ g ∧ bn ≠ g ∧ (∀ a, cA = some a → a.block ≠ g ∧ a.block ≠ bs ∧ a.block ≠ bn) ∧
    w.rowIs g 70 7 (landCells bs sc bn nc D.safe.length cA D.cache.length cc D.ops cut left D.off) ∧
    SecRow w bs (safeL D) ∧ SecRow w bn (nowL D) ∧ w.ownsRow 0 78 65 (.slice cA D.cache.length cc) D.cache.length (D.cache.flatMap wrCells) ∧ Power D cut left
theorem own_kept {w w' : World} {base : Nat} {e : TypeId} {size : Nat} {A : Option Addr} {n c : Nat} {xs : List Value} (h : w.ownsRow base e size (.slice A n c) n xs) (hk : ∀ a, A = some a → w'.heap[a.block]? = w.heap[a.block]?) : w'.ownsRow base e size (.slice A n c) n xs := by
  refine ⟨h.1, ?_⟩
  rcases h.2 with h2 | ⟨g', cap, cur, hv, hg, hh, h3, h4, h5⟩
  · exact .inl h2
  · refine .inr ⟨g', cap, cur, hv, hg, ?_, h3, h4, h5⟩
    injection hv with hv
    rw [hk _ hv]
    exact hh
theorem LandAt.lt {O : Nat → Prop} {g : Nat} {D : DiskD} {w : World} (h : LandAt O g D w) : g < w.heap.size := h.2.1 g h.1
/-- Whatever was written elsewhere: the disk is as it was. -/
theorem LandAt.kept {O : Nat → Prop} {g : Nat} {D : DiskD} {w w' : World} (h : LandAt O g D w) (hs : w.heap.size ≤ w'.heap.size) (hk : ∀ b, O b → w'.heap[b]? = w.heap[b]?) : LandAt O g D w' := by
  obtain ⟨hg, hl, bs, sc, bn, nc, cA, cc, cut, left, o1, o2, o3, d1, d2, d3, d4, hr, hsr, hnr, how, hp⟩ := h
  exact ⟨hg, fun b hb => Nat.lt_of_lt_of_le (hl b hb) hs, bs, sc, bn, nc, cA, cc, cut, left, o1, o2, o3, d1, d2, d3, d4, hr.of_block (hk g hg), hsr.kept hs (hk _ o1), hnr.kept hs (hk _ o2), own_kept how fun a ha => hk _ (o3 a ha), hp⟩
theorem LandAt.below {O : Nat → Prop} {g : Nat} {D : DiskD} {w w' : World} (h : LandAt O g D w) (hb : Below w.heap.size w w') : LandAt O g D w' := h.kept hb.size fun b hO => hb.block b (h.2.1 b hO)
theorem LandAt.only {O : Nat → Prop} {g gm : Nat} {D : DiskD} {w w' : World} (h : LandAt O g D w) (ho : Only gm w w') (hg : ¬O gm) : LandAt O g D w' := h.kept ho.size fun b hO => ho.block b (h.2.1 b hO) fun e => hg (e ▸ hO)
theorem seven {i : Nat} (h : i < 7) : i = 0 ∨ i = 1 ∨ i = 2 ∨ i = 3 ∨ i = 4 ∨ i = 5 ∨ i = 6 := by omega
/-- The record of a disk, and: with other numbers in it, it is a disk of the same sectors and writes. -/
theorem LandAt.opened {O : Nat → Prop} {g : Nat} {D : DiskD} {w : World} (h : LandAt O g D w) :
    ∃ bs sc bn nc cA cc cut l, w.rowIs g 70 7 (landCells bs sc bn nc D.safe.length cA D.cache.length cc D.ops cut l D.off) ∧ Power D cut l ∧
      ∀ (w' : World) (left : Int) (off : Bool) (ops : Nat) (cut' : Bool) (l' : Int), Only g w w' → w'.rowIs g 70 7 (landCells bs sc bn nc D.safe.length cA D.cache.length cc ops cut' l' off) →
        Power ⟨D.safe, D.cache, left, off, ops⟩ cut' l' → LandAt O g ⟨D.safe, D.cache, left, off, ops⟩ w' := by
  obtain ⟨hg, hl, bs, sc, bn, nc, cA, cc, cut, l, o1, o2, o3, d1, d2, d3, d4, h1, hsr, hnr, how, hp⟩ := h
  refine ⟨bs, sc, bn, nc, cA, cc, cut, l, h1, hp, fun w' left off ops cut' l' ho h2 hp' => ?_⟩
  exact ⟨hg, fun b hb => Nat.lt_of_lt_of_le (hl b hb) ho.size, bs, sc, bn, nc, cA, cc, cut', l', o1, o2, o3, d1, d2, d3, d4, h2, hsr.kept ho.size (ho.block _ hsr.1 d2), hnr.kept ho.size (ho.block _ hnr.1 d3), own_kept how fun a ha => ho.block _ (hl _ (o3 a ha)) (d4 a ha).1, hp'⟩
end Go.Proofs.Ytahfkcfbmklfpaa
