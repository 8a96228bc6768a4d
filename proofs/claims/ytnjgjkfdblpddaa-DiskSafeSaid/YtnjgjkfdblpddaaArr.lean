/- The statement DiskSafe's own arrays of sectors beside the landed disk. No condition beyond those that each lemma states. -/
import Derived.Test.YtnjgjkfdblpddaaSafeMath
namespace Go.Proofs.Ytnjgjkfdblpddaa
open Go.RowKit Go.Deep

/-- The block b holds an array of 32 sectors, the bytes of which lie in none of the blocks F. -/
def ArrAt (F : Nat → Prop) (b : Nat) (f : Nat → Option (List Nat)) (w : World) : Prop :=
  ∃ vs : Nat → Value, w.rowIs b 42 32 vs ∧ ∀ k, k < 32 → SecV F w (vs k) (f k)
theorem ArrAt.kept {F F' : Nat → Prop} {b : Nat} {f : Nat → Option (List Nat)} {w w' : World} (h : ArrAt F b f w) (hs : w.heap.size ≤ w'.heap.size) (hk : ∀ b, b < w.heap.size → ¬F b → w'.heap[b]? = w.heap[b]?) (hF : ∀ b, F' b → F b ∨ w.heap.size ≤ b) (hb : w'.heap[b]? = w.heap[b]?) : ArrAt F' b f w' := by
  obtain ⟨vs, hr, hv⟩ := h
  exact ⟨vs, hr.of_block hb, fun k hk2 => (hv k hk2).kept hs hk hF⟩
theorem ArrAt.congr {F : Nat → Prop} {b : Nat} {f g : Nat → Option (List Nat)} {w : World} (h : ArrAt F b f w) (e : ∀ k, k < 32 → f k = g k) : ArrAt F b g w := by
  obtain ⟨vs, hr, hv⟩ := h
  exact ⟨vs, hr, fun k hk => by rw [← e k hk]; exact hv k hk⟩
/-- One element is written. -/
theorem ArrAt.set {F : Nat → Prop} {b : Nat} {f : Nat → Option (List Nat)} {w : World} (h : ArrAt F b f w) (hF : F b) (q : Nat) {v : Value} {o : Option (List Nat)} (hv : SecV F w v o) : ArrAt F b (fun k => if k = q then o else f k) (w.setCell ⟨b, q, none⟩ v) := by
  obtain ⟨vs, hr, hv0⟩ := h
  have ho : Only b w (w.setCell ⟨b, q, none⟩ v) := (Only.refl b w).set q v
  refine ⟨_, hr.set q v, fun k hk => ?_⟩
  by_cases e : k = q
  · simp only [if_pos e]
    exact hv.only ho hF
  · simp only [if_neg e]
    exact (hv0 k hk).only ho hF
theorem ArrAt.get {F : Nat → Prop} {b : Nat} {f : Nat → Option (List Nat)} {w : World} (h : ArrAt F b f w) {k : Nat} (hk : k < 32) : ∃ v, w.cell? ⟨b, k, none⟩ = some v ∧ w.frozen? ⟨b, k, none⟩ = false ∧ SecV F w v (f k) := by
  obtain ⟨vs, hr, hv⟩ := h
  exact ⟨vs k, hr.cell hk, hr.frozen k, hv k hk⟩

/-- The landed disk, and two arrays, apart from each other, above base; E holds the arrays' own blocks. -/
def St (base : Nat) (E : Nat → Prop) (g b9 b10 : Nat) (D : DiskD) (fo fn : Nat → Option (List Nat)) (w : World) : Prop :=
  ∃ O : Nat → Prop, LandAt O g D w ∧ (∀ x, O x → base ≤ x) ∧ (∀ x, E x → base ≤ x ∧ x < w.heap.size ∧ ¬O x) ∧ E b9 ∧ E b10 ∧ b9 ≠ b10 ∧ ArrAt (fun x => O x ∨ E x) b9 fo w ∧ ArrAt (fun x => O x ∨ E x) b10 fn w
section
variable {base : Nat} {E : Nat → Prop} {g b9 b10 : Nat} {D : DiskD} {fo fn : Nat → Option (List Nat)} {w w' : World}
theorem St.below (h : St base E g b9 b10 D fo fn w) (hb : Below w.heap.size w w') : St base E g b9 b10 D fo fn w' := by
  obtain ⟨O, h1, h2, h3, h4, h5, h6, h7, h8⟩ := h
  refine ⟨O, h1.below hb, h2, fun x hx => ⟨(h3 x hx).1, Nat.lt_of_lt_of_le (h3 x hx).2.1 hb.size, (h3 x hx).2.2⟩, h4, h5, h6, ?_, ?_⟩
  · exact h7.kept hb.size (fun b hl _ => hb.block b hl) (fun _ hx => .inl hx) (hb.block b9 (h3 b9 h4).2.1)
  · exact h8.kept hb.size (fun b hl _ => hb.block b hl) (fun _ hx => .inl hx) (hb.block b10 (h3 b10 h5).2.1)
theorem St.lt (h : St base E g b9 b10 D fo fn w) : base ≤ g ∧ g < w.heap.size ∧ (∀ x, E x → base ≤ x ∧ x < w.heap.size ∧ x ≠ g) := by
  obtain ⟨O, h1, h2, h3, h4, h5, h6, h7, h8⟩ := h
  exact ⟨h2 g h1.1, h1.lt, fun x hx => ⟨(h3 x hx).1, (h3 x hx).2.1, fun e => (h3 x hx).2.2 (e ▸ h1.1)⟩⟩
/-- One more block is the arrays' own. -/
theorem St.more (h : St base E g b9 b10 D fo fn w) (hw : base ≤ w.heap.size) (o : Obj) : St base (fun x => E x ∨ x = w.heap.size) g b9 b10 D fo fn (w.alloc o) := by
  have hb : Below w.heap.size w (w.alloc o) := (Below.refl _ _).alloc (Nat.le_refl _) _
  obtain ⟨O, h1, h2, h3, h4, h5, h6, h7, h8⟩ := h
  have hF : ∀ b, (O b ∨ (E b ∨ b = w.heap.size)) → (O b ∨ E b) ∨ w.heap.size ≤ b := fun b hx => by
    rcases hx with hx | hx | rfl
    · exact .inl (.inl hx)
    · exact .inl (.inr hx)
    · exact .inr (Nat.le_refl _)
  refine ⟨O, h1.below hb, h2, fun x hx => ?_, .inl h4, .inl h5, h6, ?_, ?_⟩
  · rcases hx with hx | rfl
    · exact ⟨(h3 x hx).1, Nat.lt_of_lt_of_le (h3 x hx).2.1 hb.size, (h3 x hx).2.2⟩
    · exact ⟨hw, by simp, fun hO => Nat.lt_irrefl _ (h1.2.1 _ hO)⟩
  · exact h7.kept hb.size (fun b hl _ => hb.block b hl) hF (hb.block b9 (h3 b9 h4).2.1)
  · exact h8.kept hb.size (fun b hl _ => hb.block b hl) hF (hb.block b10 (h3 b10 h5).2.1)
/-- One of the arrays' own blocks, neither of the two, is written. -/
theorem St.other (h : St base E g b9 b10 D fo fn w) {b : Nat} (hE : E b) (h9 : b ≠ b9) (h10 : b ≠ b10) (ho : Only b w w') : St base E g b9 b10 D fo fn w' := by
  obtain ⟨O, h1, h2, h3, h4, h5, h6, h7, h8⟩ := h
  have hk : ∀ x, x < w.heap.size → ¬(O x ∨ E x) → w'.heap[x]? = w.heap[x]? := fun x hx hf => ho.block x hx fun e => hf (.inr (e ▸ hE))
  refine ⟨O, h1.only ho (h3 b hE).2.2, h2, fun x hx => ⟨(h3 x hx).1, Nat.lt_of_lt_of_le (h3 x hx).2.1 ho.size, (h3 x hx).2.2⟩, h4, h5, h6, ?_, ?_⟩
  · exact h7.kept ho.size hk (fun _ hx => .inl hx) (ho.block b9 (h3 b9 h4).2.1 (Ne.symm h9))
  · exact h8.kept ho.size hk (fun _ hx => .inl hx) (ho.block b10 (h3 b10 h5).2.1 (Ne.symm h10))
/-- A sector in new memory goes into the first array. -/
theorem St.old (h : St base E g b9 b10 D fo fn w) (hb : Below w.heap.size w w') {gb cb : Nat} {l : List Nat} (hat : BytesAt w' (some ⟨gb, 0, none⟩) l) (hg : w.heap.size ≤ gb) (hl : l.length = 64) (h256 : ∀ x ∈ l, x < 256) (hc : 64 ≤ cb) (q : Nat) :
    St base E g b9 b10 D (fun k => if k = q then some l else fo k) fn (w'.setCell ⟨b9, q, none⟩ (.slice (some ⟨gb, 0, none⟩) 64 cb)) := by
  obtain ⟨O, h1, h2, h3, h4, h5, h6, h7, h8⟩ := h
  have ho : Only b9 w' (w'.setCell ⟨b9, q, none⟩ (.slice (some ⟨gb, 0, none⟩) 64 cb)) := (Only.refl b9 w').set q _
  have h7' := h7.kept hb.size (fun b hl _ => hb.block b hl) (fun _ hx => .inl hx) (hb.block b9 (h3 b9 h4).2.1)
  have h8' := h8.kept hb.size (fun b hl _ => hb.block b hl) (fun _ hx => .inl hx) (hb.block b10 (h3 b10 h5).2.1)
  have hv : SecV (fun x => O x ∨ E x) w' (.slice (some ⟨gb, 0, none⟩) 64 cb) (some l) := .inr ⟨l, gb, 0, cb, rfl, by rw [hl], hat, fun hf => by
    rcases hf with hf | hf
    · have := h1.2.1 gb hf; omega
    · have := (h3 gb hf).2.1; omega, hl, h256, hc⟩
  have hs := ho.size
  have hs2 := hb.size
  refine ⟨O, (h1.below hb).only ho (h3 b9 h4).2.2, h2, fun x hx => ⟨(h3 x hx).1, by have := (h3 x hx).2.1; omega, (h3 x hx).2.2⟩, h4, h5, h6, h7'.set (.inr h4) q hv, ?_⟩
  have := (h3 b10 h5).2.1
  exact h8'.kept ho.size (fun x hx hf => ho.block x hx fun e => hf (.inr (e ▸ h4))) (fun _ hx => .inl hx) (ho.block b10 (by omega) (Ne.symm h6))
/-- A sector in new memory goes into the second array. -/
theorem St.new_ (h : St base E g b9 b10 D fo fn w) (hb : Below w.heap.size w w') {gb cb : Nat} {l : List Nat} (hat : BytesAt w' (some ⟨gb, 0, none⟩) l) (hg : w.heap.size ≤ gb) (hl : l.length = 64) (h256 : ∀ x ∈ l, x < 256) (hc : 64 ≤ cb) (q : Nat) :
    St base E g b9 b10 D fo (fun k => if k = q then some l else fn k) (w'.setCell ⟨b10, q, none⟩ (.slice (some ⟨gb, 0, none⟩) 64 cb)) := by
  obtain ⟨O, h1, h2, h3, h4, h5, h6, h7, h8⟩ := h
  have := St.old (b9 := b10) (b10 := b9) (fo := fn) (fn := fo) ⟨O, h1, h2, h3, h5, h4, Ne.symm h6, h8, h7⟩ hb hat hg hl h256 hc q
  obtain ⟨O, h1, h2, h3, h4, h5, h6, h7, h8⟩ := this
  exact ⟨O, h1, h2, h3, h5, h4, Ne.symm h6, h8, h7⟩
/-- What the first array has goes into the second one. -/
theorem St.copy (h : St base E g b9 b10 D fo fn w) {q : Nat} (hq : q < 32) : ∃ v, w.cell? ⟨b9, q, none⟩ = some v ∧ v.oneCell' = true ∧ (∃ u, w.cell? ⟨b10, q, none⟩ = some u) ∧ w.frozen? ⟨b10, q, none⟩ = false ∧ (∃ A n c, v = .slice A n c) ∧
    St base E g b9 b10 D fo (fun k => if k = q then fo q else fn k) (w.setCell ⟨b10, q, none⟩ v) := by
  obtain ⟨O, h1, h2, h3, h4, h5, h6, h7, h8⟩ := h
  obtain ⟨v, hc, _, hv⟩ := h7.get hq
  obtain ⟨u, hu, hf, _⟩ := h8.get hq
  have ho : Only b10 w (w.setCell ⟨b10, q, none⟩ v) := (Only.refl b10 w).set q v
  have hs : ∃ A n c, v = .slice A n c := by
    rcases hv with ⟨_, e⟩ | ⟨_, _, _, _, _, e, _⟩
    · exact ⟨_, _, _, e⟩
    · exact ⟨_, _, _, e⟩
  refine ⟨v, hc, by obtain ⟨_, _, _, rfl⟩ := hs; rfl, ⟨u, hu⟩, hf, hs, O, h1.only ho (h3 b10 h5).2.2, h2, fun x hx => ⟨(h3 x hx).1, Nat.lt_of_lt_of_le (h3 x hx).2.1 ho.size, (h3 x hx).2.2⟩, h4, h5, h6, ?_, h8.set (.inr h5) q hv⟩
  exact h7.kept ho.size (fun x hx hf => ho.block x hx fun e => hf (.inr (e ▸ h5))) (fun _ hx => .inl hx) (ho.block b9 (h3 b9 h4).2.1 h6)
theorem St.cells (h : St base E g b9 b10 D fo fn w) {q : Nat} (hq : q < 32) : (∃ v, w.cell? ⟨b9, q, none⟩ = some v) ∧ w.frozen? ⟨b9, q, none⟩ = false ∧ (∃ v, w.cell? ⟨b10, q, none⟩ = some v) ∧ w.frozen? ⟨b10, q, none⟩ = false := by
  obtain ⟨O, h1, h2, h3, h4, h5, h6, h7, h8⟩ := h
  obtain ⟨v, hc, hf, _⟩ := h7.get hq
  obtain ⟨u, hu, hf2, _⟩ := h8.get hq
  exact ⟨⟨v, hc⟩, hf, ⟨u, hu⟩, hf2⟩
/-- A call on the landed disk. -/
theorem St.land (h : St base E g b9 b10 D fo fn w) : ∃ O, LandAt O g D w ∧ ∀ D' w', LandEnd O g D' w w' → St base E g b9 b10 D' fo fn w' ∧ Below base w w' ∧ ∀ x, E x → w'.heap[x]? = w.heap[x]? := by
  have hlt := h.lt
  obtain ⟨O, h1, h2, h3, h4, h5, h6, h7, h8⟩ := h
  refine ⟨O, h1, fun D' w' he => ?_⟩
  obtain ⟨O', hO, hl, ho⟩ := he
  have hE : ∀ x, E x → w'.heap[x]? = w.heap[x]? := fun x hx => ho.block x (h3 x hx).2.1 (h3 x hx).2.2
  have hk : ∀ x, x < w.heap.size → ¬(O x ∨ E x) → w'.heap[x]? = w.heap[x]? := fun x hx hf => ho.block x hx fun e => hf (.inl e)
  have hF : ∀ x, (O' x ∨ E x) → (O x ∨ E x) ∨ w.heap.size ≤ x := fun x hx => by
    rcases hx with hx | hx
    · exact (hO x hx).imp .inl id
    · exact .inl (.inr hx)
  refine ⟨⟨O', hl, fun x hx => (hO x hx).elim (h2 x) (by omega), fun x hx => ⟨(h3 x hx).1, Nat.lt_of_lt_of_le (h3 x hx).2.1 ho.size, fun hf => ?_⟩, h4, h5, h6, h7.kept ho.size hk hF (hE b9 h4), h8.kept ho.size hk hF (hE b10 h5)⟩, ⟨ho.os, ho.tape, ho.output, ho.size, fun k hk2 => ho.block k (by omega) fun hk3 => ?_⟩, hE⟩
  · rcases hO x hf with hf | hf
    · exact (h3 x hx).2.2 hf
    · have := (h3 x hx).2.1; omega
  · have := h2 k hk3; omega
theorem St.congr {fo' fn' : Nat → Option (List Nat)} (h : St base E g b9 b10 D fo fn w) (e : ∀ k, k < 32 → fo k = fo' k) (e2 : ∀ k, k < 32 → fn k = fn' k) : St base E g b9 b10 D fo' fn' w := by
  obtain ⟨O, h1, h2, h3, h4, h5, h6, h7, h8⟩ := h
  exact ⟨O, h1, h2, h3, h4, h5, h6, h7.congr e, h8.congr e2⟩
theorem arr_new (F : Nat → Prop) (w : World) (g : Nat) (hg : g = w.heap.size) (Z : Array Value) (hZ : Z = (List.replicate 32 (Value.slice none 0 0)).toArray) : ArrAt F g (fun _ => none) (w.alloc (.cells Z 42)) := by
  subst hg
  refine ⟨fun _ => .slice none 0 0, ?_, fun k _ => .inl ⟨rfl, rfl⟩⟩
  have := World.rowIs_alloc w Z 42 (fun _ => .slice none 0 0) (fun i hi => by
    rw [hZ, List.size_toArray, List.length_replicate] at hi
    rw [hZ, List.getElem?_toArray, List.getElem?_replicate, if_pos hi])
  rwa [show Z.size = 32 by rw [hZ, List.size_toArray, List.length_replicate]] at this
/-- Both arrays, new, beside a disk. -/
theorem st_start {base g : Nat} {D : DiskD} {w : World} (h : Alone base g D w) (Z : Array Value) (hZ : Z = (List.replicate 32 (Value.slice none 0 0)).toArray) :
    St base (fun x => x = w.heap.size ∨ x = w.heap.size + 1) g w.heap.size (w.heap.size + 1) D (fun _ => none) (fun _ => none) ((w.alloc (.cells Z 42)).alloc (.cells Z 42)) := by
  have hlt := h.lt
  obtain ⟨O, h1, h2⟩ := h
  have hs1 : (w.alloc (.cells Z 42)).heap.size = w.heap.size + 1 := by simp
  have hb1 : Below w.heap.size w (w.alloc (.cells Z 42)) := (Below.refl _ _).alloc (Nat.le_refl _) _
  have hb2 : Below (w.alloc (.cells Z 42)).heap.size (w.alloc (.cells Z 42)) ((w.alloc (.cells Z 42)).alloc (.cells Z 42)) := (Below.refl _ _).alloc (Nat.le_refl _) _
  refine ⟨O, (h1.below hb1).below hb2, h2, fun x hx => ?_, .inl rfl, .inr rfl, by omega, ?_, ?_⟩
  · have hO : ∀ y, w.heap.size ≤ y → ¬O y := fun y hy hf => by have := h1.2.1 y hf; omega
    rcases hx with rfl | rfl
    · exact ⟨by omega, by simp; omega, hO _ (Nat.le_refl _)⟩
    · exact ⟨by omega, by simp, hO _ (by omega)⟩
  · have ha := arr_new (fun x => O x ∨ (x = w.heap.size ∨ x = w.heap.size + 1)) w w.heap.size rfl Z hZ
    exact ha.kept hb2.size (fun b hl _ => hb2.block b hl) (fun _ hx => .inl hx) (hb2.block _ (by rw [hs1]; omega))
  · exact arr_new _ _ _ hs1.symm Z hZ
theorem St.alone (h : St base E g b9 b10 D fo fn w) : Alone base g D w := by
  obtain ⟨O, h1, h2, _⟩ := h
  exact ⟨O, h1, h2⟩
/-- What the arrays hold, to be read. -/
theorem St.get (h : St base E g b9 b10 D fo fn w) {q : Nat} (hq : q < 32) {lo ln : List Nat} (e1 : fo q = some lo) (e2 : fn q = some ln) :
    ∃ x1 o1 c1 x2 o2 c2, w.cell? ⟨b9, q, none⟩ = some (.slice (some ⟨x1, o1, none⟩) 64 c1) ∧ BytesAt w (some ⟨x1, o1, none⟩) lo ∧ 64 ≤ c1 ∧ w.cell? ⟨b10, q, none⟩ = some (.slice (some ⟨x2, o2, none⟩) 64 c2) ∧ BytesAt w (some ⟨x2, o2, none⟩) ln ∧ lo.length = 64 ∧ ln.length = 64 ∧ (∀ x ∈ lo, x < 256) ∧ (∀ x ∈ ln, x < 256) := by
  obtain ⟨O, h1, h2, h3, h4, h5, h6, h7, h8⟩ := h
  obtain ⟨v, hc, _, hv⟩ := h7.get hq
  obtain ⟨u, hu, _, hv2⟩ := h8.get hq
  rw [e1] at hv
  rw [e2] at hv2
  rcases hv with ⟨e, _⟩ | ⟨l, x1, o1, c1, el, rfl, ha, _, hl, hb, hcc⟩
  · cases e
  · rcases hv2 with ⟨e, _⟩ | ⟨l2, x2, o2, c2, el2, rfl, ha2, _, hl2, hb2, hcc2⟩
    · cases e
    · injection el with el
      injection el2 with el2
      subst el el2
      rw [hl] at hc
      rw [hl2] at hu
      exact ⟨x1, o1, c1, x2, o2, c2, hc, ha, hcc, hu, ha2, hl, hl2, hb, hb2⟩
end
end Go.Proofs.Ytnjgjkfdblpddaa
