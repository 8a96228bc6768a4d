/- What small items hold: their texts are short; what the law CodecBack asks of each item. No condition. (Merged of 2 texts.) -/
import Derived.Test.YtkapfijokmajlaaQIn
import Derived.Test.YtkapfijokmajlaaQParts
import Derived.Test.YtkapfijokmajlaaQOut
/- What was written is read as it was, in plain mathematics: the document's reading of the document's bytes. Conditions: the limits of lists, names and texts. -/
namespace Go.Proofs.Ytkapfijokmajlaa

theorem rg_nt (n : Nat) (hm : n ≤ 1099511627776) (l : List Nat) : ∀ (k i : Nat), i + k < 6 → (i = 0 → nb n k ≠ 128) → rg (n / 128 ^ (k + 1)) i (nt n k ++ l) = (n, i + k + 1) := by
  intro k
  induction k with
  | zero =>
    intro i hi6 hi
    have e := nb_mod n 0
    rw [Nat.pow_zero, Nat.div_one] at e
    rw [nt, List.singleton_append, rg, if_neg (by omega), if_neg (fun h => hi h.1 h.2), e, Nat.pow_one]
    rw [if_pos (by rw [nb]; simp; omega), if_neg (by omega)]
    simp
    omega
  | succ k ih =>
    intro i hi6 hi
    have e := nb_mod n (k + 1)
    have e2 : n / 128 ^ (k + 1 + 1) * 128 + nb n (k + 1) % 128 = n / 128 ^ (k + 1) := by
      rw [e, ← div_pow_step]
      omega
    rw [nt, List.cons_append, rg, if_neg (by omega), if_neg (fun h => hi h.1 h.2), e2, if_neg (by rw [nb, if_neg (by omega)]; omega), ih (i + 1) (by omega) (fun h => by omega)]
    congr 1
    omega
theorem rg_nput (n : Nat) (hm : n ≤ 1099511627776) (l : List Nat) : rg 0 0 (nput n ++ l) = (n, nsz n) := by
  have h0 := nsz_pos n
  have h2 := nsz_end n hm
  have h6 := nsz_le n
  obtain ⟨r, hr⟩ : ∃ r, nsz n = r + 1 := ⟨nsz n - 1, by omega⟩
  have := rg_nt n hm l r 0 (by omega) (fun _ => by
    by_cases h1 : nsz n = 1
    · obtain rfl : r = 0 := by omega
      rw [nb, if_pos rfl]
      omega
    · have := nb_first' n hm h1
      rwa [hr, Nat.add_sub_cancel] at this)
  rw [hr] at h2
  rw [h2] at this
  rw [nput, hr, Nat.add_sub_cancel, this]
  simp
theorem trip_num {n : Int} {L : List Nat} (h : iNum n = (L, false)) (r : List Nat) : rdNum (L ++ r, 0) = ((r, 0), n.toNat) ∧ (n.toNat : Int) = n := by
  unfold iNum at h
  split at h
  · rename_i hf
    injection h with h _
    subst h
    unfold fitsN at hf
    have hp := nsz_pos n.toNat
    refine ⟨?_, by omega⟩
    rw [rdNum, if_pos rfl]
    simp only [rg_nput n.toNat (by omega) r]
    rw [if_neg (by omega), ← nput_length, List.drop_left]
  · injection h with _ h
    cases h
theorem ink_false {a b : Ink} {L : List Nat} (h : ink a b = (L, false)) : ∃ A B, a = (A, false) ∧ b = (B, false) ∧ L = A ++ B := by
  obtain ⟨A, x⟩ := a
  obtain ⟨B, y⟩ := b
  simp only [ink, Prod.mk.injEq, Bool.or_eq_false_iff] at h
  obtain ⟨rfl, rfl, rfl⟩ := h
  exact ⟨A, B, rfl, rfl, rfl⟩
theorem trip_text {t L : List Nat} (h : iText t = (L, false)) (most : Nat) (hm : t.length ≤ most) (r : List Nat) : rdText most (L ++ r, 0) = ((r, 0), t) := by
  obtain ⟨A, B, h1, h2, rfl⟩ := ink_false h
  obtain ⟨C, D, h3, h4, rfl⟩ := ink_false h2
  injection h1 with hA hv
  injection h4 with hD _
  subst hA hD
  have hv' : validB t = true := by simpa using hv
  obtain ⟨h5, h6⟩ := trip_num h3 (t ++ r)
  have h7 : ((t.length : Int)).toNat = t.length := Int.toNat_natCast _
  rw [h7] at h5
  have e : ([] ++ (C ++ t) ++ r, 0) = ((C ++ (t ++ r), 0) : Rd) := by simp
  rw [e, rdText, h5]
  simp only [if_true]
  rw [List.take_left, List.drop_left]
  rw [if_neg (by rw [hv']; simp), if_neg (by omega)]
theorem trip_flag {b : Bool} {L : List Nat} (h : iFlag b = (L, false)) (r : List Nat) : rdFlag (L ++ r, 0) = ((r, 0), b) := by
  obtain ⟨h1, _⟩ := trip_num h r
  rw [rdFlag, h1]
  cases b
  · rfl
  · rfl
theorem trip_many {α β : Type} (i : α → Ink) (f : Rd → Rd × β) (g : α → β) : ∀ (l : List α) (L : List Nat), inks (l.map i) = (L, false) → (∀ x ∈ l, ∀ M r, i x = (M, false) → f (M ++ r, 0) = ((r, 0), g x)) → ∀ r, rdMany f l.length (L ++ r, 0) = ((r, 0), l.map g) := by
  intro l
  induction l with
  | nil =>
    intro L h _ r
    injection h with h _
    subst h
    rfl
  | cons x l ih =>
    intro L h hf r
    rw [List.map_cons, inks] at h
    obtain ⟨A, B, h1, h2, rfl⟩ := ink_false h
    have h3 := hf x (by simp) A (B ++ r) h1
    have h4 := ih B h2 (fun y hy => hf y (by simp [hy])) r
    have e : (A ++ B ++ r, 0) = ((A ++ (B ++ r), 0) : Rd) := by simp
    rw [List.length_cons, rdMany, e, if_pos rfl, h3, h4, List.map_cons]
theorem trip_count {n most : Nat} {L : List Nat} (h : iNum (n : Int) = (L, false)) (hm : n ≤ most) (r : List Nat) : rdCount most (L ++ r, 0) = ((r, 0), n) := by
  obtain ⟨h1, _⟩ := trip_num h r
  rw [Int.toNat_natCast] at h1
  rw [rdCount, h1, if_neg (by simp; omega)]
theorem trip_comp {c : CompV} {L : List Nat} (h : iComp c = (L, false)) (ht : c.text.length ≤ 8000) (r : List Nat) : rdComp (L ++ r, 0) = ((r, 0), c) := by
  obtain ⟨A, B, h1, h2, rfl⟩ := ink_false h
  obtain ⟨C, D, h3, h4, rfl⟩ := ink_false h2
  obtain ⟨a1, a2⟩ := trip_num h1 (C ++ (D ++ r))
  obtain ⟨b1, b2⟩ := trip_num h3 (D ++ r)
  have c1 := trip_text h4 8000 ht r
  have e : (A ++ (C ++ D) ++ r, 0) = ((A ++ (C ++ (D ++ r)), 0) : Rd) := by simp
  rw [e, rdComp, a1]
  simp only
  rw [b1]
  simp only
  rw [c1, a2, b2]
theorem trip_comps {l : List CompV} {L : List Nat} (h : iComps l = (L, false)) (hn : l.length ≤ 100) (ht : ∀ c ∈ l, c.text.length ≤ 8000) (r : List Nat) : rdComps (L ++ r, 0) = ((r, 0), l) := by
  obtain ⟨A, B, h1, h2, rfl⟩ := ink_false h
  have h3 := trip_count h1 hn (B ++ r)
  have h4 := trip_many iComp rdComp id l B h2 (fun x hx M r hM => trip_comp hM (ht x hx) r) r
  have e : (A ++ B ++ r, 0) = ((A ++ (B ++ r), 0) : Rd) := by simp
  rw [e, rdComps, h3]
  simp only
  rw [h4]
  simp
theorem trip_node {c : NodeV} {L : List Nat} (h : iNode c = (L, false)) (hn : c.name.length ≤ 100) (ht : c.text.length ≤ 8000) (r : List Nat) : rdNode (L ++ r, 0) = ((r, 0), c) := by
  obtain ⟨A, B, h1, h2, rfl⟩ := ink_false h
  obtain ⟨C, D, h3, h4, rfl⟩ := ink_false h2
  obtain ⟨E, F, h5, h6, rfl⟩ := ink_false h4
  obtain ⟨G, K, h7, h8, rfl⟩ := ink_false h6
  obtain ⟨a1, a2⟩ := trip_num h1 (C ++ (E ++ (G ++ (K ++ r))))
  obtain ⟨b1, b2⟩ := trip_num h3 (E ++ (G ++ (K ++ r)))
  have c1 := trip_text h5 100 hn (G ++ (K ++ r))
  have d1 := trip_flag h7 (K ++ r)
  have e1 := trip_text h8 8000 ht r
  have e : (A ++ (C ++ (E ++ (G ++ K))) ++ r, 0) = ((A ++ (C ++ (E ++ (G ++ (K ++ r)))), 0) : Rd) := by simp
  rw [e, rdNode, a1]
  simp only
  rw [b1]
  simp only
  rw [c1]
  simp only
  rw [d1]
  simp only
  rw [e1, a2, b2]
theorem trip_nodes {l : List NodeV} {L : List Nat} (h : iNodes l = (L, false)) (hn : l.length ≤ 100) (ht : ∀ c ∈ l, c.name.length ≤ 100 ∧ c.text.length ≤ 8000) (r : List Nat) : rdNodes (L ++ r, 0) = ((r, 0), l) := by
  obtain ⟨A, B, h1, h2, rfl⟩ := ink_false h
  have h3 := trip_count h1 hn (B ++ r)
  have h4 := trip_many iNode rdNode id l B h2 (fun x hx M r hM => trip_node hM (ht x hx).1 (ht x hx).2 r) r
  have e : (A ++ B ++ r, 0) = ((A ++ (B ++ r), 0) : Rd) := by simp
  rw [e, rdNodes, h3]
  simp only
  rw [h4]
  simp
theorem trip_act {c : ActV} {L : List Nat} (h : iAct c = (L, false)) (hn : c.name.length ≤ 100) (ho : c.ops.length ≤ 100) (ht : ∀ y ∈ c.ops, y.text.length ≤ 8000) (r : List Nat) : rdAct (L ++ r, 0) = ((r, 0), strip c) := by
  obtain ⟨A, B, h1, h2, rfl⟩ := ink_false h
  obtain ⟨C, D, h3, h4, rfl⟩ := ink_false h2
  obtain ⟨E, F, h5, h6, rfl⟩ := ink_false h4
  obtain ⟨G, K, h7, h8, rfl⟩ := ink_false h6
  obtain ⟨M, N, h9, h10, rfl⟩ := ink_false h8
  obtain ⟨a1, a2⟩ := trip_num h1 (C ++ (E ++ (G ++ (M ++ (N ++ r)))))
  obtain ⟨b1, b2⟩ := trip_num h3 (E ++ (G ++ (M ++ (N ++ r))))
  obtain ⟨c1, c2⟩ := trip_num h5 (G ++ (M ++ (N ++ r)))
  have d1 := trip_text h7 100 hn (M ++ (N ++ r))
  have e1 := trip_flag h9 (N ++ r)
  have f1 := trip_comps h10 ho ht r
  have e : (A ++ (C ++ (E ++ (G ++ (M ++ N)))) ++ r, 0) = ((A ++ (C ++ (E ++ (G ++ (M ++ (N ++ r))))), 0) : Rd) := by simp
  rw [e, rdAct, a1]
  simp only
  rw [b1]
  simp only
  rw [c1]
  simp only
  rw [d1]
  simp only
  rw [e1]
  simp only
  rw [f1, a2, b2, c2, strip]
theorem trip_acts {l : List ActV} {L : List Nat} (h : iActs l = (L, false)) (hn : l.length ≤ 20) (ht : ∀ c ∈ l, c.name.length ≤ 100 ∧ c.ops.length ≤ 100 ∧ ∀ y ∈ c.ops, y.text.length ≤ 8000) (r : List Nat) : rdActs (L ++ r, 0) = ((r, 0), l.map strip) := by
  obtain ⟨A, B, h1, h2, rfl⟩ := ink_false h
  have h3 := trip_count h1 hn (B ++ r)
  have h4 := trip_many iAct rdAct strip l B h2 (fun x hx M r hM => trip_act hM (ht x hx).1 (ht x hx).2.1 (ht x hx).2.2 r) r
  have e : (A ++ B ++ r, 0) = ((A ++ (B ++ r), 0) : Rd) := by simp
  rw [e, rdActs, h3]
  simp only
  rw [h4]
  simp
end Go.Proofs.Ytkapfijokmajlaa

/- What small items hold: their texts are short; what the law CodecBack asks of each item. No condition. -/
namespace Go.Proofs.Ytkapfijokmajlaa

def LimA (y : ActV) : Prop := y.name.length ≤ 100 ∧ y.ops.length ≤ 100
def LimN (y : NodeV) : Prop := y.name.length ≤ 100
/-- Within the limits. -/
def Lim (y : ItemV) : Prop := y.comps.length ≤ 100 ∧ y.acts.length ≤ 20 ∧ y.nodes.length ≤ 100 ∧ (∀ a ∈ y.acts, LimA a) ∧ ∀ n ∈ y.nodes, LimN n
/-- Short texts. -/
def Texts (y : ItemV) : Prop := y.s.length ≤ 3000 ∧ (∀ c ∈ y.comps, c.text.length ≤ 8000) ∧ (∀ a ∈ y.acts, ∀ c ∈ a.ops, c.text.length ≤ 8000) ∧ ∀ n ∈ y.nodes, n.text.length ≤ 8000
theorem comps_texts (l : List CompV) (h : compsWeight 3000 l ≤ 3000) : ∀ c ∈ l, c.text.length ≤ 3000 := by
  intro c hc
  have e := compsWeight_spec l h
  have h1 := le_sum (fun c => (compTerms c).sum) l c hc
  have h2 : c.text.length ≤ (compTerms c).sum := by simp [compTerms]
  omega
theorem items_texts (l : List ItemV) (h : itemsWeight l ≤ 3000) : ∀ y ∈ l, Texts y := by
  intro y hy
  have e := itemsWeight_spec l h
  have h1 := le_sum (fun c => (itemTerms c).sum) l y hy
  have h2 : y.s.length + compsWeight 3000 y.comps + actsWeight 3000 y.acts + nodesWeight 3000 y.nodes + 4 = (itemTerms y).sum := by simp [itemTerms]; omega
  refine ⟨by omega, fun c hc => ?_, fun a ha c hc => ?_, fun n hn => ?_⟩
  · have := comps_texts y.comps (by omega) c hc
    omega
  · have e2 := actsWeight_spec y.acts (by omega)
    have h3 := le_sum (fun c => (actTerms 3000 c).sum) y.acts a ha
    have h4 : compsWeight 3000 a.ops ≤ (actTerms 3000 a).sum := by simp [actTerms]; omega
    have := comps_texts a.ops (by omega) c hc
    omega
  · have e2 := nodesWeight_spec y.nodes (by omega)
    have h3 := le_sum (fun c => (nodeTerms c).sum) y.nodes n hn
    have h4 : n.text.length ≤ (nodeTerms n).sum := by simp [nodeTerms]; omega
    omega
theorem upto_all {α : Type} {P : α → Prop} {l : List α} {k : Nat} (hk : k = l.length) (h : ∀ q, q < k → ∀ y, l[q]? = some y → P y) : ∀ y ∈ l, P y := by
  intro y hy
  obtain ⟨q, hq⟩ := List.getElem?_of_mem hy
  have hl : q < l.length := (List.getElem?_eq_some_iff.1 hq).1
  exact h q (by omega) y hq
theorem upto_step {α : Type} {P : α → Prop} {l : List α} {k : Nat} (h : ∀ q, q < k → ∀ y, l[q]? = some y → P y) {x : α} (hx : l[k]? = some x) (hp : P x) : ∀ q, q < k + 1 → ∀ y, l[q]? = some y → P y := by
  intro q hq y hy
  by_cases e : q = k
  · subst e
    rw [hx] at hy
    injection hy with hy
    rw [← hy]; exact hp
  · exact h q (by omega) y hy
theorem inks_drop {α : Type} (f : α → Ink) (l : List α) (k : Nat) (h : k < l.length) : inks ((l.drop k).map f) = ink (f l[k]) (inks ((l.drop (k + 1)).map f)) := by
  rw [List.drop_eq_getElem_cons h, List.map_cons, inks]
theorem iItem_bytes_num (n : Int) : ∀ x ∈ (iNum n).1, x < 256 := by
  intro x hx
  unfold iNum at hx
  split at hx
  · exact nput_bytes _ x hx
  · cases hx
theorem ink_bytes {a b : Ink} (ha : ∀ x ∈ a.1, x < 256) (hb : ∀ x ∈ b.1, x < 256) : ∀ x ∈ (ink a b).1, x < 256 := by
  intro x hx
  rcases List.mem_append.1 hx with h | h
  · exact ha x h
  · exact hb x h
theorem inks_bytes {α : Type} (f : α → Ink) (l : List α) (h : ∀ y ∈ l, ∀ x ∈ (f y).1, x < 256) : ∀ x ∈ (inks (l.map f)).1, x < 256 := by
  induction l with
  | nil => intro x hx; cases hx
  | cons y l ih =>
    rw [List.map_cons, inks]
    exact ink_bytes (h y (by simp)) (ih (fun z hz => h z (by simp [hz])))
theorem text_bytes {t : List Nat} (h : ∀ x ∈ t, x < 256) : ∀ x ∈ (iText t).1, x < 256 := ink_bytes (fun x hx => by cases hx) (ink_bytes (iItem_bytes_num _) h)
theorem comps_bytes {l : List CompV} (h : ∀ y ∈ l, y.Good) : ∀ x ∈ (iComps l).1, x < 256 :=
  ink_bytes (iItem_bytes_num _) (inks_bytes iComp l fun y hy => ink_bytes (iItem_bytes_num _) (ink_bytes (iItem_bytes_num _) (text_bytes (h y hy).2.2.1)))
theorem acts_bytes {l : List ActV} (h : ∀ y ∈ l, y.Good) : ∀ x ∈ (iActs l).1, x < 256 :=
  ink_bytes (iItem_bytes_num _) (inks_bytes iAct l fun y hy => ink_bytes (iItem_bytes_num _) (ink_bytes (iItem_bytes_num _) (ink_bytes (iItem_bytes_num _) (ink_bytes (text_bytes (h y hy).2.2.2.1.1) (ink_bytes (iItem_bytes_num _) (comps_bytes (h y hy).2.2.2.2.1))))))
theorem nodes_bytes {l : List NodeV} (h : ∀ y ∈ l, y.Good) : ∀ x ∈ (iNodes l).1, x < 256 :=
  ink_bytes (iItem_bytes_num _) (inks_bytes iNode l fun y hy => ink_bytes (iItem_bytes_num _) (ink_bytes (iItem_bytes_num _) (ink_bytes (text_bytes (h y hy).2.2.1.1) (ink_bytes (iItem_bytes_num _) (text_bytes (h y hy).2.2.2.1)))))
theorem items_bytes {l : List ItemV} (h : ∀ y ∈ l, y.Good) : ∀ x ∈ (inks (l.map iItem)).1, x < 256 :=
  inks_bytes iItem l fun y hy => by
    obtain ⟨_, _, hs, hc, ha, hn, _⟩ := h y hy
    unfold iItem
    repeat' split
    · exact iItem_bytes_num _
    · exact text_bytes hs.1
    · exact iItem_bytes_num _
    · exact comps_bytes hc
    · exact acts_bytes ha
    · exact nodes_bytes hn
    · intro x hx; cases hx
end Go.Proofs.Ytkapfijokmajlaa
