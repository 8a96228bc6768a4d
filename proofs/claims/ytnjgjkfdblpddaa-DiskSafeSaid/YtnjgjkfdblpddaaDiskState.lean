/- What a disk is like behind so many steps; the landed disk and the document's own, side by side in one memory. No condition beyond those that each lemma states. -/
import Derived.Test.YtnjgjkfdblpddaaDiskCrash
import Derived.Test.YtnjgjkfdblpddaaRefDiskCrash
namespace Go.Proofs.Ytnjgjkfdblpddaa
open Go.RowKit Go.Deep

/-- A disk behind n steps. -/
structure DiskD.Good (n : Nat) (D : DiskD) : Prop where
  fit : D.Fit
  ops : D.ops ≤ n
  cached : D.cache.length ≤ n
  left : -1 ≤ D.left ∧ D.left ≤ 9223372036854775807
theorem DiskD.Good.more {n m : Nat} {D : DiskD} (h : D.Good n) (hm : n ≤ m) : D.Good m := ⟨h.fit, Nat.le_trans h.ops hm, Nat.le_trans h.cached hm, h.left⟩
theorem DiskD.Good.wf {n : Nat} {D : DiskD} (h : D.Good n) : D.WF := fun p hp => (h.fit.cache p hp).1
theorem good_new {k : Nat} (h1 : 1 ≤ k) (h2 : k ≤ 65536) : (DiskD.new k).Good 0 := by
  refine ⟨⟨?_, ?_, fun o ho => ?_, fun p hp => by cases hp⟩, Nat.le_refl _, Nat.le_refl _, show (-1 : Int) ≤ -1 ∧ (-1 : Int) ≤ 9223372036854775807 by decide⟩
  · simp [DiskD.new]; omega
  · simp [DiskD.new]; exact h2
  · rw [List.eq_of_mem_replicate ho]
    simp [secB, noughts]
theorem DiskD.Good.act {n : Nat} {D : DiskD} (h : D.Good n) : D.act.1.Good (n + 1) := by
  obtain ⟨_, h2⟩ := act_safe D
  refine ⟨act_fit h.fit, ?_, by rw [h2]; exact Nat.le_succ_of_le h.cached, ?_⟩
  · have := h.ops
    unfold DiskD.act
    split <;> simp <;> exact this
  · have := h.left
    unfold DiskD.act
    split
    · exact this
    · simp only
      split <;> omega
theorem DiskD.Good.write {n : Nat} {D : DiskD} (h : D.Good n) (at_ : Int) (l : List Nat) : (D.write at_ l).1.Good (n + 1) := by
  have ha := h.act
  unfold DiskD.write
  split
  · exact ha
  · split
    · exact ha
    · rename_i h1 h2
      refine ⟨⟨h.fit.pos, h.fit.most, h.fit.safe, fun p hp => ?_⟩, ha.ops, ?_, ha.left⟩
      · rcases List.mem_append.1 hp with hp | hp
        · exact h.fit.cache p hp
        · rw [List.mem_singleton.1 hp]
          exact ⟨by show at_.toNat < D.safe.length; omega, by show l.length = 64; omega⟩
      · rw [List.length_append]
        exact Nat.add_le_add h.cached (Nat.le_refl _)
theorem fold_secs : ∀ (cache : List (Nat × List Nat)) (safe : List (Option (List Nat))), (∀ p ∈ cache, p.2.length = 64) → (∀ o ∈ safe, (secB o).length = 64) → ∀ o ∈ fold cache safe, (secB o).length = 64 := by
  intro cache
  induction cache with
  | nil => intro safe _ hs; exact hs
  | cons p l ih =>
    intro safe hc hs
    refine ih _ (fun x hx => hc x (by simp [hx])) fun o ho => ?_
    rcases List.mem_or_eq_of_mem_set ho with ho | rfl
    · exact hs o ho
    · exact hc p (by simp)
theorem DiskD.Good.flush {n : Nat} {D : DiskD} (h : D.Good n) : D.flush.1.Good (n + 1) := by
  have ha := h.act
  unfold DiskD.flush
  split
  · exact ha
  · refine ⟨⟨?_, ?_, fold_secs _ _ (fun p hp => (h.fit.cache p hp).2) h.fit.safe, fun p hp => by cases hp⟩, ha.ops, Nat.zero_le _, ha.left⟩
    · show 0 < (fold D.cache D.safe).length
      rw [fold_length]; exact h.fit.pos
    · show (fold D.cache D.safe).length ≤ 65536
      rw [fold_length]; exact h.fit.most
theorem DiskD.Good.cut {n : Nat} {D : DiskD} (h : D.Good n) (k : Int) (hk : k ≤ 9223372036854775807) : (D.cut k).Good n := by
  refine ⟨⟨h.fit.pos, h.fit.most, h.fit.safe, h.fit.cache⟩, h.ops, h.cached, ?_⟩
  show -1 ≤ max k 0 ∧ max k 0 ≤ 9223372036854775807
  omega
theorem laid_secs {T : Int} {t : Nat} (ht : t ≤ 64) {L : List (Nat × List Nat)} {s : List (Option (List Nat))} (hL : ∀ p ∈ L, p.2.length = 64) (hs : ∀ o ∈ s, (secB o).length = 64) : ∀ k, ∀ o ∈ laidN T t L s k, (secB o).length = 64 := by
  intro k
  induction k with
  | zero => rw [laidN_zero]; exact hs
  | succ k ih =>
    by_cases hk : k < L.length
    · rw [laidN_next hk]
      intro o ho
      rcases List.mem_or_eq_of_mem_set ho with ho | rfl
      · exact ih o ho
      · have h64 := hL _ (List.getElem_mem hk)
        show (laidB T t (laidN T t L s k) k L[k]).length = 64
        unfold laidB
        split
        · have hb : (secB ((laidN T t L s k)[L[k].1]?.getD none)).length = 64 := by
            cases he : (laidN T t L s k)[L[k].1]? with
            | none => simp [secB, noughts]
            | some o => exact ih o (List.mem_of_getElem? he)
          rw [List.length_append, List.length_take, List.length_drop, hb, h64]
          omega
        · exact h64
    · rw [laidN_over hk]
      exact ih
theorem DiskD.Good.crash {n : Nat} {D : DiskD} (h : D.Good n) (l : List Int) : (D.crash l).Good 0 := by
  have ht : rnd (pk l 2) 65 < 65 := rnd_lt _ (by omega)
  refine ⟨⟨?_, ?_, laid_secs (by omega) (fun p hp => (h.fit.cache p (keptN_mem hp)).2) h.fit.safe _, fun p hp => by cases hp⟩, Nat.le_refl _, Nat.le_refl _, show (-1 : Int) ≤ -1 ∧ (-1 : Int) ≤ 9223372036854775807 by decide⟩
  · show 0 < (laidN _ _ _ _ _).length
    rw [laidN_length]; exact h.fit.pos
  · show (laidN _ _ _ _ _).length ≤ 65536
    rw [laidN_length]; exact h.fit.most

/-- Both lie in one memory, above base, apart from each other: the landed disk D at g, the document's own E at gm. -/
def Pair (base g gm : Nat) (D E : DiskD) (w : World) : Prop :=
  ∃ O : Nat → Prop, LandAt O g D w ∧ DiskAt (fun x => O x ∨ x = gm) gm E w ∧ ¬O gm ∧ (∀ x, O x → base ≤ x) ∧ base ≤ gm
theorem Pair.below {base g gm : Nat} {D E : DiskD} {w w' : World} (h : Pair base g gm D E w) (hb : Below w.heap.size w w') : Pair base g gm D E w' := by
  obtain ⟨O, h1, h2, h3, h4, h5⟩ := h
  exact ⟨O, h1.below hb, h2.below hb, h3, h4, h5⟩
theorem Pair.lt {base g gm : Nat} {D E : DiskD} {w : World} (h : Pair base g gm D E w) : base ≤ g ∧ g < w.heap.size ∧ base ≤ gm ∧ gm < w.heap.size ∧ g ≠ gm := by
  obtain ⟨O, h1, h2, h3, h4, h5⟩ := h
  exact ⟨h4 g h1.1, h1.lt, h5, h2.lt, fun e => h3 (e ▸ h1.1)⟩
/-- A call on the landed disk. -/
theorem pair_land {base g gm : Nat} {D E : DiskD} {w w' : World} {O : Nat → Prop} (h2 : DiskAt (fun x => O x ∨ x = gm) gm E w) (h3 : ¬O gm) (h4 : ∀ x, O x → base ≤ x) (h5 : base ≤ gm) (he : LandEnd O g D w w') : Pair base g gm D E w' ∧ Below base w w' ∧ Off O w w' := by
  obtain ⟨O', hO, hl, ho⟩ := he
  have hlt := h2.lt
  refine ⟨⟨O', hl, h2.kept ho.size (fun b hb hf => ho.block b hb ?_) ?_ ?_ (.inr rfl), fun h => ?_, fun x hx => ?_, h5⟩, ⟨ho.os, ho.tape, ho.output, ho.size, fun k hk => ho.block k (by omega) fun hk2 => ?_⟩, ho⟩
  · rcases hf with hf | rfl
    · exact fun h => hf (.inl h)
    · exact h3
  · intro b hb
    rcases hb with hb | rfl
    · exact (hO b hb).imp .inl id
    · exact .inl (.inr rfl)
  · intro b hb
    rcases hb with hb | rfl
    · exact hl.2.1 b hb
    · exact Nat.lt_of_lt_of_le hlt ho.size
  · rcases hO gm h with h | h
    · exact h3 h
    · omega
  · rcases hO x hx with h | h
    · exact h4 x h
    · omega
  · have := h4 k hk2
    omega
/-- A call on the document's own. -/
theorem pair_ref {base g gm : Nat} {D E : DiskD} {w w' : World} {O : Nat → Prop} (h1 : LandAt O g D w) (h3 : ¬O gm) (h4 : ∀ x, O x → base ≤ x) (h5 : base ≤ gm) (hg : gm < w.heap.size) (hd : DiskAt (fun x => O x ∨ x = gm) gm E w') (ho : Only gm w w') : Pair base g gm D E w' ∧ Below base w w' :=
  ⟨⟨O, h1.only ho h3, hd, h3, h4, h5⟩, ⟨ho.os, ho.tape, ho.output, ho.size, fun k hk => ho.block k (by omega) (by omega)⟩⟩
theorem BytesAt.off {O : Nat → Prop} {b off : Nat} {w w' : World} {l : List Nat} (h : BytesAt w (some ⟨b, off, none⟩) l) (ho : Off O w w') (hb : ¬O b) : BytesAt w' (some ⟨b, off, none⟩) l := h.kept ho.size fun hlt => ho.block b hlt hb
end Go.Proofs.Ytnjgjkfdblpddaa
