/- The document's own Path, Do, Children, SameNodes over a tree, told by functions. Conditions: a tree; nodes and acts that may be. (Merged of 8 texts.) -/
import Derived.Test.YtmedaimndaaiiaaMPt
import Derived.Test.YtmedaimndaaiiaaMCells
import Derived.Deep.LoopGhost
import Derived.Test.YtmedaimndaaiiaaMNd
import Derived.Test.YtmedaimndaaiiaaMRk
/- The document's own Path: names from the root on. Conditions: the way to the root ends, within 2^20 steps; no name is longer than 20 bytes. -/
namespace Go.Proofs.Ytmedaimndaaiiaa
open Go.RowKit Go.Deep

/-- The way to the root, with what was gathered; n: so many steps are left. none: they did not do; some none: nobody there. -/
def clm (l : List NodeV) : Nat → Int → List Nat → Option (Option (List Nat))
  | 0, id, acc => if id = 0 then some (some acc) else none
  | n + 1, id, acc => if id = 0 then some (some acc) else match rFind l id with
    | none => some none
    | some k => clm l n ((l[k]?).getD default).parent (((l[k]?).getD default).name ++ (if acc = [] then [] else 47 :: acc))
theorem clm_root (l : List NodeV) (n : Nat) (acc : List Nat) : clm l n 0 acc = some (some acc) := by cases n <;> exact if_pos rfl
theorem clm_stop {l : List NodeV} {id : Int} (h : id ≠ 0) (acc : List Nat) : clm l 0 id acc = none := if_neg h
theorem clm_none {l : List NodeV} {id : Int} (h : id ≠ 0) (hf : rFind l id = none) (n : Nat) (acc : List Nat) : clm l (n + 1) id acc = some none := by
  rw [clm, if_neg h, hf]
theorem clm_up {l : List NodeV} {id : Int} (h : id ≠ 0) {k : Nat} (hk : k < l.length) (hf : rFind l id = some k) (n : Nat) (acc : List Nat) : clm l (n + 1) id acc = clm l n l[k].parent (l[k].name ++ (if acc = [] then [] else 47 :: acc)) := by
  rw [clm, if_neg h, hf]
  show clm l n ((l[k]?).getD default).parent (((l[k]?).getD default).name ++ _) = _
  rw [List.getElem?_eq_getElem hk]
  rfl
attribute [irreducible] clm
/-- As Path answers it. -/
def pathV : Option (List Nat) → Value
  | some s => .tuple #[.string (bstr s), .bool true]
  | none => .tuple #[.string (bstr []), .bool false]

end Go.Proofs.Ytmedaimndaaiiaa

/- Climbing from a node to its parent, and on: it ends, and no longer way is wanted than there are nodes; who ends is not within itself. No condition. -/
namespace Go.Proofs.Ytmedaimndaaiiaa

/-- The parent of an ID; none: nobody has it. -/
def up (l : List NodeV) (id : Int) : Option Int := (rFind l id).map fun k => ((l[k]?).getD default).parent
theorem up_none {l : List NodeV} {id : Int} (h : rFind l id = none) : up l id = none := by unfold up; rw [h]; rfl
theorem up_some {l : List NodeV} {id : Int} {k : Nat} (hk : k < l.length) (h : rFind l id = some k) : up l id = some l[k].parent := by
  unfold up
  rw [h, Option.map_some, List.getElem?_eq_getElem hk]
  rfl
/-- Climbing by P ends in so many steps. -/
def Ends (P : Int → Option Int) : Nat → Int → Prop
  | 0, id => P id = none
  | n + 1, id => ∀ p, P id = some p → Ends P n p
variable {P Q : Int → Option Int}
theorem Ends.none {n : Nat} {id : Int} (h : P id = .none) : Ends P n id := by
  cases n with
  | zero => exact h
  | succ n => intro p hp; rw [h] at hp; cases hp
theorem Ends.succ : ∀ {n : Nat} {id : Int}, Ends P n id → Ends P (n + 1) id
  | 0, _, h => Ends.none h
  | _ + 1, _, h => fun p hp => (h p hp).succ
theorem Ends.le {n m : Nat} {id : Int} (h : Ends P n id) (hm : n ≤ m) : Ends P m id := by
  induction hm with
  | refl => exact h
  | step _ ih => exact ih.succ
/-- Just so many. -/
def Dep (P : Int → Option Int) (d : Nat) (id : Int) : Prop := Ends P d id ∧ ∀ n, n < d → ¬ Ends P n id
theorem dep_of : ∀ {n : Nat} {id : Int}, Ends P n id → ∃ d, d ≤ n ∧ Dep P d id
  | 0, _, h => ⟨0, Nat.le_refl _, h, fun n hn => by omega⟩
  | n + 1, id, h => by
    by_cases h1 : Ends P n id
    · obtain ⟨d, hd, h2⟩ := dep_of h1
      exact ⟨d, by omega, h2⟩
    · exact ⟨n + 1, Nat.le_refl _, h, fun m hm g => h1 (g.le (by omega))⟩
theorem Dep.fn {i j : Nat} {y : Int} (hi : Dep P i y) (hj : Dep P j y) : i = j := by
  rcases Nat.lt_trichotomy i j with h | h | h
  · exact absurd hi.1 (hj.2 i h)
  · exact h
  · exact absurd hj.1 (hi.2 j h)
theorem Dep.zero {y : Int} (h : Dep P 0 y) : P y = none := h.1
theorem Dep.step {d : Nat} {x : Int} (h : Dep P (d + 1) x) : ∃ p, P x = some p ∧ Dep P d p := by
  cases hp : P x with
  | none => exact absurd (Ends.none hp : Ends P 0 x) (h.2 0 (by omega))
  | some p =>
    refine ⟨p, rfl, h.1 p hp, fun n hn g => h.2 (n + 1) (by omega) ?_⟩
    intro q hq
    rw [hp] at hq
    injection hq with hq
    subst hq
    exact g
theorem dep_all : ∀ {d : Nat} {x : Int}, Dep P d x → ∀ j, j < d → ∃ y, P y ≠ none ∧ Dep P (j + 1) y
  | 0, _, _, j, hj => by omega
  | d + 1, x, h, j, hj => by
    obtain ⟨p, hp, h1⟩ := h.step
    by_cases e : j = d
    · subst e
      exact ⟨x, by rw [hp]; simp, h⟩
    · exact dep_all h1 j (by omega)
theorem pigeon {R : Nat → Int → Prop} (hf : ∀ i j y, R i y → R j y → i = j) : ∀ (d : Nat) (S : List Int), (∀ j, j < d → ∃ y, y ∈ S ∧ R j y) → d ≤ S.length
  | 0, _, _ => Nat.zero_le _
  | d + 1, S, h => by
    obtain ⟨y, hy, hr⟩ := h d (by omega)
    have h1 := pigeon hf d (S.erase y) fun j hj => by
      obtain ⟨z, hz, hz2⟩ := h j (by omega)
      refine ⟨z, (List.mem_erase_of_ne (fun e => ?_)).2 hz, hz2⟩
      subst e
      have := hf _ _ _ hz2 hr
      omega
    rw [List.length_erase_of_mem hy] at h1
    have := List.length_pos_of_mem hy
    omega
theorem ends_len (S : List Int) (hS : ∀ y, P y ≠ none → y ∈ S) {n : Nat} {x : Int} (h : Ends P n x) : Ends P S.length x := by
  obtain ⟨d, _, hd⟩ := dep_of h
  refine hd.1.le (pigeon (R := fun j y => Dep P (j + 1) y) (fun i j y h1 h2 => by have := Dep.fn h1 h2; omega) d S fun j hj => ?_)
  obtain ⟨y, h1, h2⟩ := dep_all hd j hj
  exact ⟨y, hS y h1, h2⟩
theorem Ends.sub (hq : ∀ id p, Q id = some p → P id = some p) : ∀ {n : Nat} {id : Int}, Ends P n id → Ends Q n id
  | 0, id, h => by
    show Q id = .none
    cases e : Q id with
    | none => rfl
    | some p =>
      have h' : P id = .none := h
      rw [hq id p e] at h'
      cases h'
  | _ + 1, _, h => fun p hp => (h p (hq _ p hp)).sub hq

/-! ### In a list of nodes -/
variable {l : List NodeV}
theorem up_mem {y : Int} (h : up l y ≠ none) : y ∈ l.map fun x => x.id := by
  cases hf : rFind l y with
  | none => exact absurd (up_none hf) h
  | some k =>
    obtain ⟨hk, e, _⟩ := rFind_some hf
    exact List.mem_map.2 ⟨_, List.getElem_mem hk, e⟩
theorem up_ends {n : Nat} {x : Int} (h : Ends (up l) n x) : Ends (up l) l.length x := by
  have := ends_len (l.map fun x => x.id) (fun y hy => up_mem hy) h
  rwa [List.length_map] at this
theorem wthn_ends (top : Int) : ∀ (n : Nat) (id : Int), wthn l top n id = false → Ends (up l) n id
  | 0, id, h => by rw [wthn_zero] at h; cases h
  | n + 1, id, h => by
    by_cases e : id = top
    · subst e; rw [wthn_top] at h; cases h
    · cases hf : rFind l id with
      | none => exact Ends.none (up_none hf)
      | some k =>
        obtain ⟨hk, _⟩ := rFind_some hf
        rw [wthn_up e hk hf] at h
        intro p hp
        rw [up_some hk hf] at hp
        injection hp with hp
        subst hp
        exact wthn_ends top n _ h
/-- Who lies less deep than top does not come by it. -/
theorem wthn_deep {top : Int} {d : Nat} (ht : Dep (up l) d top) : ∀ (m : Nat) (y : Int) (N : Nat), Dep (up l) m y → m < d → m ≤ N → wthn l top (N + 1) y = false
  | 0, y, N, h, hd, _ => by
    have e : y ≠ top := fun e => by subst e; have := Dep.fn h ht; omega
    cases hf : rFind l y with
    | none => exact wthn_none e hf N
    | some k =>
      obtain ⟨hk, _⟩ := rFind_some hf
      have := h.zero
      rw [up_some hk hf] at this
      cases this
  | m + 1, y, N, h, hd, hN => by
    have e : y ≠ top := fun e => by subst e; have := Dep.fn h ht; omega
    obtain ⟨p, hp, h1⟩ := h.step
    cases hf : rFind l y with
    | none => exact wthn_none e hf N
    | some k =>
      obtain ⟨hk, _⟩ := rFind_some hf
      rw [up_some hk hf] at hp
      injection hp with hp
      subst hp
      rw [wthn_up e hk hf]
      obtain ⟨N', rfl⟩ : ∃ N', N = N' + 1 := ⟨N - 1, by omega⟩
      exact wthn_deep ht m _ N' h1 (by omega) (by omega)
/-- Who ends is not within itself. -/
theorem not_within {k : Nat} (hk : k < l.length) (hf : rFind l l[k].id = some k) {n : Nat} (h : Ends (up l) n l[k].id) : rWithin l l[k].parent l[k].id = false := by
  obtain ⟨d, hd, hd2⟩ := dep_of (up_ends h)
  have hu := up_some hk hf
  rw [rWithin_def]
  cases d with
  | zero => have := hd2.zero; rw [hu] at this; cases this
  | succ d =>
    obtain ⟨p, hp, h1⟩ := hd2.step
    rw [hu] at hp
    injection hp with hp
    subst hp
    exact wthn_deep hd2 d _ _ h1 (by omega) (by omega)
/-- A way up that ends is told. -/
theorem clm_ends : ∀ (n : Nat) (id : Int) (acc : List Nat), Ends (up l) n id → ∃ r, clm l (n + 1) id acc = some r
  | n, id, acc, h => by
    by_cases e : id = 0
    · subst e; exact ⟨_, clm_root l _ acc⟩
    · cases hf : rFind l id with
      | none => exact ⟨_, clm_none e hf n acc⟩
      | some k =>
        obtain ⟨hk, _⟩ := rFind_some hf
        rw [clm_up e hk hf]
        cases n with
        | zero =>
          have h' : up l id = none := h
          rw [up_some hk hf] at h'
          cases h'
        | succ n => exact clm_ends n _ _ (h _ (up_some hk hf))
end Go.Proofs.Ytmedaimndaaiiaa

/- What a tree of nodes is, by who is in it: TreeM is SoundN. No condition. -/
namespace Go.Proofs.Ytmedaimndaaiiaa

/-- A node by itself. -/
def NdOk (x : NodeV) : Prop := 1 ≤ x.id ∧ x.id ≤ 1099511627776 ∧ IsName x.name ∧ (x.dir = true → x.text = []) ∧ x.text.length ≤ 8000 ∧ (∃ vs, V x.text vs) ∧ (cps x.text).length ≤ 2000
structure TreeM (l : List NodeV) : Prop where
  len : l.length ≤ 100
  srt : l.Pairwise fun a b => a.id < b.id
  nd : ∀ x ∈ l, NdOk x
  uniq : ∀ x ∈ l, ∀ y ∈ l, x.parent = y.parent → x.name = y.name → x = y
  tot : rTotal l ≤ 10000
  dirs : ∀ x ∈ l, x.parent = 0 ∨ ∃ q ∈ l, q.id = x.parent ∧ q.dir = true
  ends : ∀ x ∈ l, ∃ n, Ends (up l) n x.id
variable {l : List NodeV}
/-- Where each node is found. -/
theorem srt_find (h : l.Pairwise fun a b => a.id < b.id) {k : Nat} (hk : k < l.length) : rFind l l[k].id = some k :=
  rFind_yes hk rfl fun j hj hjk e => by
    have := List.pairwise_iff_getElem.1 h j k hj hk hjk
    omega
theorem srt_id (h : l.Pairwise fun a b => a.id < b.id) {x y : NodeV} (hx : x ∈ l) (hy : y ∈ l) (e : x.id = y.id) : x = y := by
  obtain ⟨i, hi, rfl⟩ := List.getElem_of_mem hx
  obtain ⟨j, hj, rfl⟩ := List.getElem_of_mem hy
  rcases Nat.lt_trichotomy i j with g | g | g
  · have := List.pairwise_iff_getElem.1 h i j hi hj g; omega
  · subst g; rfl
  · have := List.pairwise_iff_getElem.1 h j i hj hi g; omega
theorem up_iff (h : l.Pairwise fun a b => a.id < b.id) {i p : Int} : up l i = some p ↔ ∃ y ∈ l, y.id = i ∧ y.parent = p := by
  constructor
  · intro g
    cases hf : rFind l i with
    | none => rw [up_none hf] at g; cases g
    | some k =>
      obtain ⟨hk, e, _⟩ := rFind_some hf
      rw [up_some hk hf] at g
      injection g with g
      exact ⟨_, List.getElem_mem hk, e, g⟩
  · rintro ⟨y, hy, rfl, rfl⟩
    obtain ⟨k, hk, rfl⟩ := List.getElem_of_mem hy
    exact up_some hk (srt_find h hk)
theorem up_no {i : Int} : up l i = none ↔ ∀ y ∈ l, y.id ≠ i := by
  constructor
  · intro g
    cases hf : rFind l i with
    | none => exact rFind_none hf
    | some k =>
      obtain ⟨hk, e, _⟩ := rFind_some hf
      rw [up_some hk hf] at g
      cases g
  · intro g
    exact up_none (rFind_no g)
theorem total_mono (l : List NodeV) : ∀ k, rTotal (l.take k) ≤ rTotal l := by
  intro k
  by_cases h : l.length ≤ k
  · rw [List.take_of_length_le h]; exact Nat.le_refl _
  · suffices H : ∀ d k, k + d = l.length → rTotal (l.take k) ≤ rTotal l from H (l.length - k) k (by omega)
    intro d
    induction d with
    | zero => intro k hk; rw [List.take_of_length_le (by omega)]; exact Nat.le_refl _
    | succ d ih =>
      intro k hk
      have h1 := ih (k + 1) (by omega)
      rw [total_take l (by omega)] at h1
      omega
theorem validB_iff {t : List Nat} : validB t = true ↔ ∃ vs, V t vs := by
  constructor
  · intro h
    by_cases g : ∃ vs, V t vs
    · exact g
    · rw [validB_no g] at h; cases h
  · rintro ⟨vs, h⟩; exact validB_yes h
theorem TreeM.of (h : SoundN l) : TreeM l := by
  have hs : l.Pairwise fun a b => a.id < b.id := by
    rw [List.pairwise_iff_getElem]
    intro i j hi hj hij
    obtain ⟨d, rfl⟩ : ∃ d, j = i + 1 + d := ⟨j - i - 1, by omega⟩
    clear hij
    induction d with
    | zero => exact (h.2 (i + 1) hj).1.2.2.1 i rfl _ (List.getElem?_eq_getElem hi)
    | succ d ih =>
      have h1 := ih (by omega)
      have h2 := (h.2 (i + 1 + d + 1) hj).1.2.2.1 (i + 1 + d) rfl _ (List.getElem?_eq_getElem (by omega))
      have e : l[i + 1 + (d + 1)]'hj = l[i + 1 + d + 1]'hj := rfl
      rw [e]
      omega
  have hat : ∀ x ∈ l, ∃ k, ∃ hk : k < l.length, l[k] = x ∧ NodeOk l k x := fun x hx => by
    obtain ⟨k, hk, rfl⟩ := List.getElem_of_mem hx
    exact ⟨k, hk, rfl, h.2 k hk⟩
  refine ⟨h.1, hs, fun x hx => ?_, fun x hx y hy e1 e2 => ?_, ?_, fun x hx => ?_, fun x hx => ?_⟩
  · obtain ⟨k, hk, _, ho⟩ := hat x hx
    exact ⟨ho.1.1, ho.1.2.1, ho.1.2.2.2.1, ho.1.2.2.2.2.2.1, ho.1.2.2.2.2.2.2.1, validB_iff.1 ho.1.2.2.2.2.2.2.2, ho.2.1⟩
  · obtain ⟨_, _, _, hx2⟩ := hat x hx
    obtain ⟨_, _, _, hy2⟩ := hat y hy
    have h1 := hx2.1.2.2.2.2.1
    have h2 := hy2.1.2.2.2.2.1
    rw [e1, e2, h2] at h1
    exact srt_id hs hx hy h1.symm
  · cases hl : l.length with
    | zero =>
      have : l = [] := List.length_eq_zero_iff.1 hl
      rw [this, total_nil]
      omega
    | succ n =>
      have := (h.2 n (by omega)).2.2.1
      rwa [List.take_of_length_le (by omega)] at this
  · obtain ⟨_, _, _, hx2⟩ := hat x hx
    rcases hx2.2.2.2 with g | ⟨q, hq, hf, hd, _⟩
    · exact .inl g
    · obtain ⟨_, e, _⟩ := rFind_some hf
      exact .inr ⟨_, List.getElem_mem hq, e, hd⟩
  · obtain ⟨k, hk, rfl, hx2⟩ := hat x hx
    have hf := srt_find hs hk
    rcases hx2.2.2.2 with g | ⟨q, hq, _, _, hw⟩
    · refine ⟨1, fun p hp => ?_⟩
      rw [up_some hk hf] at hp
      injection hp with hp
      subst hp
      rw [g]
      show up l 0 = none
      rw [up_no]
      intro y hy
      obtain ⟨_, _, _, hy2⟩ := hat y hy
      have := hy2.1.1
      omega
    · rw [rWithin_def] at hw
      refine ⟨l.length + 1 + 1, fun p hp => ?_⟩
      rw [up_some hk hf] at hp
      injection hp with hp
      subst hp
      exact wthn_ends _ _ _ hw
theorem TreeM.sound (h : TreeM l) : SoundN l := by
  refine ⟨h.len, fun k hk => ?_⟩
  have hx := List.getElem_mem hk
  obtain ⟨h1, h2, h3, h4, h5, h6, h7⟩ := h.nd _ hx
  refine ⟨⟨h1, h2, fun j hj y hy => ?_, h3, ?_, h4, h5, validB_iff.2 h6⟩, h7, Nat.le_trans (total_mono l _) h.tot, ?_⟩
  · obtain ⟨hjl, rfl⟩ := List.getElem?_eq_some_iff.1 hy
    exact List.pairwise_iff_getElem.1 h.srt j k hjl hk (by omega)
  · refine rChild_at hk ⟨rfl, rfl⟩ fun j hj hjk g => ?_
    have e := h.uniq _ (List.getElem_mem hj) _ hx g.1 g.2
    have := List.pairwise_iff_getElem.1 h.srt j k hj hk hjk
    rw [e] at this
    omega
  · rcases h.dirs _ hx with g | ⟨q, hq, e, hd⟩
    · exact .inl g
    · obtain ⟨j, hj, rfl⟩ := List.getElem_of_mem hq
      obtain ⟨n, hn⟩ := h.ends _ hx
      exact .inr ⟨j, hj, e ▸ srt_find h.srt hj, hd, not_within hk (srt_find h.srt hk) hn⟩
theorem treeM_iff : SoundN l ↔ TreeM l := ⟨TreeM.of, TreeM.sound⟩
end Go.Proofs.Ytmedaimndaaiiaa

/- What the document's own Do makes of a tree is a tree. No condition. -/
namespace Go.Proofs.Ytmedaimndaaiiaa
variable {l : List NodeV}

theorem rPlace_inv {p id : Int} {n : List Nat} (h : rPlace l p n id = 0) : rUp l p id = 0 ∧ (rChild l p n < 0 ∨ rChild l p n = id) := by
  by_cases u : rUp l p id = 0
  · refine ⟨u, ?_⟩
    by_cases c : 0 ≤ rChild l p n ∧ rChild l p n ≠ id
    · rw [rPlace_there u c.1 c.2] at h; omega
    · omega
  · rw [rPlace_up rfl u] at h
    exact absurd h u
theorem rUp_inv {p id : Int} (h : rUp l p id = 0) : p = 0 ∨ ∃ q ∈ l, q.id = p ∧ q.dir = true ∧ (0 < id → rWithin l p id = false) := by
  by_cases hp : p = 0
  · exact .inl hp
  · cases hf : rFind l p with
    | none => rw [rUp_none id hp hf] at h; omega
    | some k =>
      obtain ⟨hk, e, _⟩ := rFind_some hf
      rw [rUp_some id hk hp hf] at h
      cases hd : l[k].dir with
      | false => rw [hd, if_pos rfl] at h; omega
      | true =>
        rw [hd, if_neg (by simp)] at h
        refine .inr ⟨_, List.getElem_mem hk, e, hd, fun hi => ?_⟩
        cases hw : rWithin l p id with
        | false => rfl
        | true => rw [if_pos ⟨hi, hw⟩] at h; omega
theorem child_some {p : Int} {n : List Nat} (h : ∃ y ∈ l, y.parent = p ∧ y.name = n) : ∃ y ∈ l, y.parent = p ∧ y.name = n ∧ rChild l p n = y.id := by
  unfold rChild
  cases hf : l.find? (fun y => decide (y.parent = p ∧ y.name = n)) with
  | none =>
    obtain ⟨y, hy, hy2⟩ := h
    have := List.find?_eq_none.1 hf y hy
    exact absurd (decide_eq_true hy2) this
  | some y =>
    have h0 : decide (y.parent = p ∧ y.name = n) = true := List.find?_some (p := fun y : NodeV => decide (y.parent = p ∧ y.name = n)) hf
    have h1 := of_decide_eq_true h0
    exact ⟨y, List.mem_of_find?_eq_some hf, h1.1, h1.2, rfl⟩
theorem total_app (a b : List NodeV) : rTotal (a ++ b) = rTotal a + rTotal b := by unfold rTotal; simp
theorem total_one (x : NodeV) (b : List NodeV) : rTotal (x :: b) = (cps x.text).length + rTotal b := by unfold rTotal; simp
theorem TreeM.pos (h : TreeM l) {x : NodeV} (hx : x ∈ l) : 1 ≤ x.id := (h.nd x hx).1
theorem TreeM.up_zero (h : TreeM l) : up l 0 = none := up_no.2 fun y hy => by have := h.pos hy; omega
theorem up_out {m : List NodeV} (hs : l.Pairwise fun a b => a.id < b.id) (hm : m.Pairwise fun a b => a.id < b.id) {i : Int} (h : ∀ p, (∃ y ∈ m, y.id = i ∧ y.parent = p) ↔ ∃ y ∈ l, y.id = i ∧ y.parent = p) : up m i = up l i := by
  apply Option.ext
  intro p
  rw [up_iff hs, up_iff hm]
  exact h p

theorem TreeM.create (h : TreeM l) {a : ActV} (hid : IdOk a.id) (hn : IsName a.name) (hf : rFind l a.id = none) (hp : rPlace l a.parent a.name 0 = 0) (hlen : l.length < 100) :
    TreeM (l.take (rAt l a.id) ++ newNode a :: l.drop (rAt l a.id)) := by
  have hno := rFind_none hf
  have hlt : ∀ x ∈ l.take (rAt l a.id), x.id < a.id := fun x hx => by
    obtain ⟨j, hj, rfl⟩ := List.getElem_of_mem hx
    rw [List.length_take] at hj
    obtain ⟨h1, h2⟩ := rAt_lt (l := l) (id := a.id) (k := j) (by omega)
    rw [List.getElem_take]
    exact h2
  have hgt : ∀ x ∈ l.drop (rAt l a.id), a.id < x.id := fun x hx => by
    obtain ⟨j, hj, rfl⟩ := List.getElem_of_mem hx
    rw [List.length_drop] at hj
    rw [List.getElem_drop]
    have hq : rAt l a.id < l.length := by omega
    have h1 := rAt_ge hq
    have h2 := hno _ (List.getElem_mem hq)
    by_cases hj0 : j = 0
    · subst hj0
      simp only [Nat.add_zero]
      omega
    · have := List.pairwise_iff_getElem.1 h.srt (rAt l a.id) (rAt l a.id + j) hq (by omega) (by omega)
      omega
  have hmem : ∀ x, x ∈ l ↔ x ∈ l.take (rAt l a.id) ∨ x ∈ l.drop (rAt l a.id) := fun x => by
    rw [← List.mem_append, List.take_append_drop]
  have hsum : rTotal l = rTotal (l.take (rAt l a.id)) + rTotal (l.drop (rAt l a.id)) := by rw [← total_app, List.take_append_drop]
  have hlq : (l.take (rAt l a.id)).length + (l.drop (rAt l a.id)).length = l.length := by rw [← List.length_append, List.take_append_drop]
  have hs1 : (l.take (rAt l a.id)).Pairwise fun a b => a.id < b.id := h.srt.sublist (List.take_sublist _ _)
  have hs2 : (l.drop (rAt l a.id)).Pairwise fun a b => a.id < b.id := h.srt.sublist (List.drop_sublist _ _)
  generalize l.take (rAt l a.id) = m1 at hlt hmem hsum hlq hs1 ⊢
  generalize l.drop (rAt l a.id) = m2 at hgt hmem hsum hlq hs2 ⊢
  have hin : ∀ x, x ∈ m1 ++ newNode a :: m2 ↔ x = newNode a ∨ x ∈ l := fun x => by
    rw [List.mem_append, List.mem_cons, hmem]
    constructor
    · rintro (g | g | g)
      · exact .inr (.inl g)
      · exact .inl g
      · exact .inr (.inr g)
    · rintro (g | g | g)
      · exact .inr (.inl g)
      · exact .inl g
      · exact .inr (.inr g)
  have hs : (m1 ++ newNode a :: m2).Pairwise fun a b => a.id < b.id := by
    rw [List.pairwise_append]
    refine ⟨hs1, List.pairwise_cons.2 ⟨fun y hy => hgt y hy, hs2⟩, fun x hx y hy => ?_⟩
    have h1 := hlt x hx
    rcases List.mem_cons.1 hy with rfl | hy
    · exact h1
    · have := hgt y hy; omega
  obtain ⟨hu, hc⟩ := rPlace_inv hp
  have hnc : ∀ y ∈ l, ¬ (y.parent = a.parent ∧ y.name = a.name) := fun y hy g => by
    obtain ⟨z, hz, _, _, e⟩ := child_some ⟨y, hy, g⟩
    have := h.pos hz
    omega
  have hpar : ∀ x ∈ l, x.parent ≠ a.id := fun x hx e => by
    rcases h.dirs x hx with g | ⟨q, hq, g, _⟩
    · have := hid.1; omega
    · exact hno q hq (by omega)
  have hupn : up (m1 ++ newNode a :: m2) a.id = some a.parent := (up_iff hs).2 ⟨_, (hin _).2 (.inl rfl), rfl, rfl⟩
  have hupo : ∀ i, i ≠ a.id → up (m1 ++ newNode a :: m2) i = up l i := fun i hi => up_out h.srt hs fun p => by
    constructor
    · rintro ⟨y, hy, e1, e2⟩
      rcases (hin y).1 hy with rfl | hy
      · exact absurd e1.symm hi
      · exact ⟨y, hy, e1, e2⟩
    · rintro ⟨y, hy, e1, e2⟩
      exact ⟨y, (hin y).2 (.inr hy), e1, e2⟩
  have hold : ∀ n y, y ≠ a.id → Ends (up l) n y → Ends (up (m1 ++ newNode a :: m2)) n y := by
    intro n
    induction n with
    | zero => intro y hy g; show up _ _ = none; rw [hupo y hy]; exact g
    | succ n ih =>
      intro y hy g p hp
      rw [hupo y hy] at hp
      obtain ⟨x, hx, _, e⟩ := (up_iff h.srt).1 hp
      exact ih p (e ▸ hpar x hx) (g p hp)
  refine ⟨?_, hs, fun x hx => ?_, fun x hx y hy e1 e2 => ?_, ?_, fun x hx => ?_, fun x hx => ?_⟩
  · rw [List.length_append, List.length_cons]; omega
  · rcases (hin x).1 hx with rfl | hx
    · have := cps_le ([] : List Nat)
      exact ⟨hid.1, hid.2, hn, fun _ => rfl, Nat.zero_le _, ⟨[], by have g := V.mk (vs := []) (fun _ h => by cases h); rwa [E_nil] at g⟩, by show (cps []).length ≤ _; simp at this; rw [this]; simp⟩
    · exact h.nd x hx
  · rcases (hin x).1 hx with rfl | hx
    · rcases (hin y).1 hy with rfl | hy
      · rfl
      · exact absurd ⟨e1.symm, e2.symm⟩ (hnc y hy)
    · rcases (hin y).1 hy with rfl | hy
      · exact absurd ⟨e1, e2⟩ (hnc x hx)
      · exact h.uniq x hx y hy e1 e2
  · have := cps_le ([] : List Nat)
    rw [total_app, total_one]
    have e : (cps (newNode a).text).length = 0 := by
      show (cps []).length = 0
      simpa using this
    have := h.tot
    omega
  · rcases (hin x).1 hx with rfl | hx
    · rcases rUp_inv hu with g | ⟨q, hq, g1, g2, _⟩
      · exact .inl g
      · exact .inr ⟨q, (hin q).2 (.inr hq), g1, g2⟩
    · rcases h.dirs x hx with g | ⟨q, hq, g1, g2⟩
      · exact .inl g
      · exact .inr ⟨q, (hin q).2 (.inr hq), g1, g2⟩
  · rcases (hin x).1 hx with rfl | hx
    · have hend : ∃ n, Ends (up (m1 ++ newNode a :: m2)) n a.parent := by
        rcases rUp_inv hu with g | ⟨q, hq, g1, g2, _⟩
        · refine ⟨0, ?_⟩
          show up _ _ = none
          rw [g, hupo 0 (by have := hid.1; omega)]
          exact h.up_zero
        · obtain ⟨n, hn⟩ := h.ends q hq
          exact ⟨n, g1 ▸ hold n _ (hno q hq) hn⟩
      obtain ⟨n, hn⟩ := hend
      refine ⟨n + 1, fun p hp => ?_⟩
      have hp' : up (m1 ++ newNode a :: m2) a.id = some p := hp
      rw [hupn] at hp'
      injection hp' with hp'
      subst hp'
      exact hn
    · obtain ⟨n, hn⟩ := h.ends x hx
      exact ⟨n, hold n _ (hno x hx) hn⟩

theorem TreeM.remove (h : TreeM l) {k : Nat} (hk : k < l.length) (hno : ∀ y ∈ l, y.parent ≠ l[k].id) : TreeM (l.take k ++ l.drop (k + 1)) := by
  have hl : l = l.take k ++ l[k] :: l.drop (k + 1) := by rw [← List.drop_eq_getElem_cons hk, List.take_append_drop]
  have hsub : (l.take k ++ l.drop (k + 1)).Sublist l := by
    conv => rhs; rw [hl]
    exact List.Sublist.append (List.Sublist.refl _) (List.sublist_cons_self _ _)
  have hs := h.srt.sublist hsub
  have hin : ∀ x, x ∈ l → x.id ≠ l[k].id → x ∈ l.take k ++ l.drop (k + 1) := fun x hx hne => by
    rw [hl, List.mem_append, List.mem_cons] at hx
    rw [List.mem_append]
    rcases hx with g | g | g
    · exact .inl g
    · rw [g] at hne; exact absurd rfl hne
    · exact .inr g
  have hof : ∀ x, x ∈ l.take k ++ l.drop (k + 1) → x ∈ l := fun x hx => hsub.mem hx
  refine ⟨?_, hs, fun x hx => h.nd x (hof x hx), fun x hx y hy => h.uniq x (hof x hx) y (hof y hy), ?_, fun x hx => ?_, fun x hx => ?_⟩
  · exact Nat.le_trans hsub.length_le h.len
  · have h1 := h.tot
    have h2 : rTotal l = rTotal (l.take k ++ l[k] :: l.drop (k + 1)) := congrArg rTotal hl
    rw [total_app, total_one] at h2
    rw [total_app]
    omega
  · rcases h.dirs x (hof x hx) with g | ⟨q, hq, g1, g2⟩
    · exact .inl g
    · exact .inr ⟨q, hin q hq (fun e => hno x (hof x hx) (by omega)), g1, g2⟩
  · obtain ⟨n, hn⟩ := h.ends x (hof x hx)
    refine ⟨n, hn.sub fun id p hp => ?_⟩
    obtain ⟨y, hy, e1, e2⟩ := (up_iff hs).1 hp
    exact (up_iff h.srt).2 ⟨y, hof y hy, e1, e2⟩

theorem TreeM.set (h : TreeM l) {k : Nat} (hk : k < l.length) {y : NodeV} (hid : y.id = l[k].id) (hdir : y.dir = l[k].dir) (hy : NdOk y) (hu : ∀ (j : Nat) (hj : j < l.length), j ≠ k → ¬ (l[j].parent = y.parent ∧ l[j].name = y.name))
    (ht : rTotal (l.set k y) ≤ 10000) (hd : y.parent = 0 ∨ ∃ q ∈ l, q.id = y.parent ∧ q.dir = true) (hw : rWithin l y.parent y.id = false) : TreeM (l.set k y) := by
  have hcase : ∀ x, x ∈ l.set k y → x = y ∨ ∃ j, ∃ hj : j < l.length, j ≠ k ∧ x = l[j] := fun x hx => by
    obtain ⟨j, hj, rfl⟩ := List.getElem_of_mem hx
    rw [List.length_set] at hj
    by_cases e : j = k
    · subst e; exact .inl (List.getElem_set_self _)
    · exact .inr ⟨j, hj, e, List.getElem_set_ne (fun g => e g.symm) _⟩
  have hself : y ∈ l.set k y := List.mem_set hk y
  have hoth : ∀ (j : Nat) (hj : j < l.length), j ≠ k → l[j] ∈ l.set k y := fun j hj e => by
    have : (l.set k y)[j]'(by rw [List.length_set]; exact hj) = l[j] := List.getElem_set_ne (fun g => e g.symm) _
    rw [← this]
    exact List.getElem_mem _
  have hsame : ∀ q ∈ l, ∃ q' ∈ l.set k y, q'.id = q.id ∧ q'.dir = q.dir := fun q hq => by
    obtain ⟨j, hj, rfl⟩ := List.getElem_of_mem hq
    by_cases e : j = k
    · subst e; exact ⟨y, hself, hid, hdir⟩
    · exact ⟨_, hoth j hj e, rfl, rfl⟩
  have hids : ∀ (j : Nat) (hj : j < l.length), ((l.set k y)[j]'(by rw [List.length_set]; exact hj)).id = l[j].id := fun j hj => by
    rw [List.getElem_set]
    split
    · rename_i e; subst e; exact hid
    · rfl
  have hs : (l.set k y).Pairwise fun a b => a.id < b.id := by
    rw [List.pairwise_iff_getElem]
    intro i j hi hj hij
    rw [List.length_set] at hi hj
    rw [hids i hi, hids j hj]
    exact List.pairwise_iff_getElem.1 h.srt i j hi hj hij
  have hupy : up (l.set k y) y.id = some y.parent := (up_iff hs).2 ⟨y, hself, rfl, rfl⟩
  have hupo : ∀ i, i ≠ y.id → up (l.set k y) i = up l i := fun i hi => up_out h.srt hs fun p => by
    constructor
    · rintro ⟨z, hz, e1, e2⟩
      rcases hcase z hz with rfl | ⟨j, hj, _, rfl⟩
      · exact absurd e1.symm hi
      · exact ⟨_, List.getElem_mem hj, e1, e2⟩
    · rintro ⟨z, hz, e1, e2⟩
      obtain ⟨j, hj, rfl⟩ := List.getElem_of_mem hz
      by_cases e : j = k
      · subst e; exact absurd (by omega) hi
      · exact ⟨_, hoth j hj e, e1, e2⟩
  have hclear : ∀ n p, wthn l y.id n p = false → Ends (up (l.set k y)) n p := by
    intro n
    induction n with
    | zero => intro p g; rw [wthn_zero] at g; cases g
    | succ n ih =>
      intro p g
      by_cases e : p = y.id
      · rw [e, wthn_top] at g; cases g
      · cases hf : rFind l p with
        | none => exact Ends.none (by rw [hupo p e]; exact up_none hf)
        | some j =>
          obtain ⟨hj, _⟩ := rFind_some hf
          rw [wthn_up e hj hf] at g
          intro r hr
          rw [hupo p e, up_some hj hf] at hr
          injection hr with hr
          subst hr
          exact ih _ g
  have hyend : Ends (up (l.set k y)) (l.length + 1 + 1) y.id := by
    intro p hp
    rw [hupy] at hp
    injection hp with hp
    subst hp
    rw [rWithin_def] at hw
    exact hclear _ _ hw
  have hall : ∀ n z, Ends (up l) n z → ∃ m, Ends (up (l.set k y)) m z := by
    intro n
    induction n with
    | zero =>
      intro z g
      by_cases e : z = y.id
      · exact ⟨_, e ▸ hyend⟩
      · exact ⟨0, (hupo z e).trans g⟩
    | succ n ih =>
      intro z g
      by_cases e : z = y.id
      · exact ⟨_, e ▸ hyend⟩
      · cases hz : up l z with
        | none => exact ⟨0, (hupo z e).trans hz⟩
        | some p =>
          obtain ⟨m, hm⟩ := ih p (g p hz)
          refine ⟨m + 1, fun r hr => ?_⟩
          rw [hupo z e, hz] at hr
          injection hr with hr
          subst hr
          exact hm
  refine ⟨by rw [List.length_set]; exact h.len, hs, fun x hx => ?_, fun x hx z hz e1 e2 => ?_, ht, fun x hx => ?_, fun x hx => ?_⟩
  · rcases hcase x hx with rfl | ⟨j, hj, _, rfl⟩
    · exact hy
    · exact h.nd _ (List.getElem_mem hj)
  · rcases hcase x hx with rfl | ⟨j, hj, hjk, rfl⟩
    · rcases hcase z hz with rfl | ⟨i, hi, hik, rfl⟩
      · rfl
      · exact absurd ⟨e1.symm, e2.symm⟩ (hu i hi hik)
    · rcases hcase z hz with rfl | ⟨i, hi, hik, rfl⟩
      · exact absurd ⟨e1, e2⟩ (hu j hj hjk)
      · exact h.uniq _ (List.getElem_mem hj) _ (List.getElem_mem hi) e1 e2
  · have key : ∀ q ∈ l, q.dir = true → ∃ q' ∈ l.set k y, q'.id = q.id ∧ q'.dir = true := fun q hq g => by
      obtain ⟨q', h1, h2, h3⟩ := hsame q hq
      exact ⟨q', h1, h2, h3.trans g⟩
    rcases hcase x hx with rfl | ⟨j, hj, _, rfl⟩
    · rcases hd with g | ⟨q, hq, g1, g2⟩
      · exact .inl g
      · obtain ⟨q', h1, h2, h3⟩ := key q hq g2
        exact .inr ⟨q', h1, h2.trans g1, h3⟩
    · rcases h.dirs _ (List.getElem_mem hj) with g | ⟨q, hq, g1, g2⟩
      · exact .inl g
      · obtain ⟨q', h1, h2, h3⟩ := key q hq g2
        exact .inr ⟨q', h1, h2.trans g1, h3⟩
  · rcases hcase x hx with rfl | ⟨j, hj, _, rfl⟩
    · exact ⟨_, hyend⟩
    · obtain ⟨n, hn⟩ := h.ends _ (List.getElem_mem hj)
      exact hall n _ hn
end Go.Proofs.Ytmedaimndaaiiaa

/- Do keeps a tree a tree, whatever the act. No condition. -/
namespace Go.Proofs.Ytmedaimndaaiiaa
variable {l : List NodeV}

theorem total_same {k : Nat} (hk : k < l.length) {y : NodeV} (h : y.text = l[k].text) : rTotal (l.set k y) = rTotal l := by
  unfold rTotal
  rw [List.map_set, show (cps y.text).length = (l.map fun y => (cps y.text).length)[k]'(by rw [List.length_map]; exact hk) from by rw [List.getElem_map, h], List.set_getElem_self]
/-- What an edit makes of a text. -/
theorem edit_text {t : List Nat} {ops : List CompV} (h : dErr t ops = 0) : (dTxt t ops).length ≤ 8000 ∧ (∃ vs, V (dTxt t ops) vs) ∧ (cps (dTxt t ops)).length ≤ 2000 := by
  obtain ⟨hz, x, hx, hn⟩ := dErr_zero h
  have hok := ok_of hz
  have hb := hok.base
  have ho := hok.out1
  have hl := ed_length ops x hok.wh (by omega)
  have hv : V (dTxt t ops) (ed ops x) := by
    rw [dTxt_ed hz hx hn]
    exact V.mk (ed_may ops x hok.wh hx.may)
  exact ⟨(dTxt_small t ops).2, ⟨_, hv⟩, by rw [cps_of hv]; omega⟩
theorem root_within (h : TreeM l) {id : Int} (hi : 1 ≤ id) : rWithin l 0 id = false := by
  rw [rWithin_def]
  exact wthn_none (by omega) (rFind_no fun y hy => by have := h.pos hy; omega) _
theorem TreeM.does (h : TreeM l) (a : ActV) : TreeM (rDo l a).1 := by
  by_cases k1 : a.kind = 1
  · by_cases c : IdOk a.id ∧ IsName a.name
    · cases hf : rFind l a.id with
      | some q => rw [rDo_c2 k1 c hf]; exact h
      | none =>
        by_cases hp : rPlace l a.parent a.name 0 = 0
        · by_cases hn : 100 ≤ l.length
          · rw [rDo_c4 k1 c hf hp hn]; exact h
          · rw [rDo_c5 k1 c hf hp hn]; exact h.create c.1 c.2 hf hp (by omega)
        · rw [rDo_c3 k1 c hf hp]; exact h
    · rw [rDo_c1 k1 c]; exact h
  by_cases k2 : a.kind = 2
  · cases hf : rFind l a.id with
    | none => rw [rDo_r1 k2 hf]; exact h
    | some k =>
      by_cases c : ∃ y ∈ l, y.parent = a.id
      · rw [rDo_r2 k2 hf c]; exact h
      · rw [rDo_r3 k2 hf c]
        obtain ⟨hk, e, _⟩ := rFind_some hf
        exact h.remove hk fun y hy g => c ⟨y, hy, by omega⟩
  by_cases k3 : a.kind = 3
  · by_cases c : IsName a.name
    · cases hf : rFind l a.id with
      | none => rw [rDo_m2 k3 c hf]; exact h
      | some k =>
        obtain ⟨hk, e, _⟩ := rFind_some hf
        by_cases hp : rPlace l a.parent a.name a.id = 0
        · rw [rDo_m4 k3 c hk hf hp]
          obtain ⟨hu, hc⟩ := rPlace_inv hp
          have hx := h.nd _ (List.getElem_mem hk)
          have hi := hx.1
          refine h.set hk rfl rfl ⟨hx.1, hx.2.1, c, hx.2.2.2.1, hx.2.2.2.2.1, hx.2.2.2.2.2.1, hx.2.2.2.2.2.2⟩ (fun j hj hjk g => ?_) ?_ ?_ ?_
          · obtain ⟨z, hz, g1, g2, g3⟩ := child_some ⟨_, List.getElem_mem hj, g⟩
            have hz1 := h.pos hz
            have e2 : z.id = l[k].id := by
              rcases hc with hc | hc
              · have : rChild l a.parent a.name = z.id := g3
                omega
              · have : rChild l a.parent a.name = z.id := g3
                omega
            have e3 := srt_id h.srt hz (List.getElem_mem hk) e2
            have e4 := h.uniq _ (List.getElem_mem hj) z hz (g.1.trans g1.symm) (g.2.trans g2.symm)
            have e5 : l[j].id = l[k].id := by rw [e4, e3]
            rcases Nat.lt_trichotomy j k with q | q | q
            · have := List.pairwise_iff_getElem.1 h.srt j k hj hk q; omega
            · exact hjk q
            · have := List.pairwise_iff_getElem.1 h.srt k j hk hj q; omega
          · exact (total_same (y := ⟨l[k].id, a.parent, a.name, l[k].dir, l[k].text⟩) hk rfl) ▸ h.tot
          · rcases rUp_inv hu with g | ⟨q, hq, g1, g2, _⟩
            · exact .inl g
            · exact .inr ⟨q, hq, g1, g2⟩
          · show rWithin l a.parent l[k].id = false
            rcases rUp_inv hu with g | ⟨q, hq, g1, g2, g3⟩
            · rw [g]; exact root_within h hi
            · rw [e]; exact g3 (by omega)
        · rw [rDo_m3 k3 c hf hp]; exact h
    · rw [rDo_m1 k3 c]; exact h
  by_cases k4 : a.kind = 4
  · cases hf : rFind l a.id with
    | none => rw [rDo_e1 k4 hf]; exact h
    | some k =>
      obtain ⟨hk, e, _⟩ := rFind_some hf
      rw [rDo_e k4 hk hf]
      split
      · exact h
      · rename_i hd
        split
        · exact h
        · rename_i hE
          split
          · exact h
          · rename_i ht
            have hx := h.nd _ (List.getElem_mem hk)
            obtain ⟨g1, g2, g3⟩ := edit_text (t := l[k].text) (ops := a.ops) (by omega)
            obtain ⟨n, hn⟩ := h.ends _ (List.getElem_mem hk)
            refine h.set hk rfl rfl ⟨hx.1, hx.2.1, hx.2.2.1, fun g => absurd g hd, g1, g2, g3⟩ (fun j hj hjk g => ?_) (by omega) ?_ (not_within hk (srt_find h.srt hk) hn)
            · have e4 := h.uniq _ (List.getElem_mem hj) _ (List.getElem_mem hk) g.1 g.2
              have e5 : l[j].id = l[k].id := by rw [e4]
              rcases Nat.lt_trichotomy j k with q | q | q
              · have := List.pairwise_iff_getElem.1 h.srt j k hj hk q; omega
              · exact hjk q
              · have := List.pairwise_iff_getElem.1 h.srt k j hk hj q; omega
            · exact h.dirs l[k] (List.getElem_mem hk)
  rw [rDo_o k1 k2 k3 k4]; exact h
theorem sound_does (h : SoundN l) (a : ActV) : SoundN (rDo l a).1 := ((TreeM.of h).does a).sound
/-- Each way up in a tree is told. -/
theorem TreeM.told (h : TreeM l) (id : Int) : ∃ r, Go.Proofs.Ytmedaimndaaiiaa.clm l (l.length + 1) id [] = some r := by
  refine clm_ends _ _ _ ?_
  cases hf : rFind l id with
  | none => exact Ends.none (up_none hf)
  | some k =>
    obtain ⟨hk, e, _⟩ := rFind_some hf
    obtain ⟨n, hn⟩ := h.ends _ (List.getElem_mem hk)
    exact e ▸ up_ends hn
end Go.Proofs.Ytmedaimndaaiiaa

/- Paths in a tree: a node's is its parent's, with the name behind it. No condition. -/
namespace Go.Proofs.Ytmedaimndaaiiaa
variable {l : List NodeV}

/-- A name behind a path. -/
def jn (s acc : List Nat) : List Nat := if s = [] then acc else s ++ 47 :: acc
theorem jn_nil (acc : List Nat) : jn [] acc = acc := if_pos rfl
theorem jn_assoc {s n acc : List Nat} (hn : n ≠ []) : jn (jn s n) acc = jn s (n ++ 47 :: acc) := by
  unfold jn
  by_cases h : s = []
  · rw [if_pos h, if_pos h, if_neg hn]
  · rw [if_neg h, if_neg h, if_neg (by simp), List.append_assoc]
    rfl
theorem clm_acc (hn : ∀ y ∈ l, y.name ≠ []) : ∀ (n : Nat) (id : Int) (acc : List Nat), acc ≠ [] → clm l n id acc = (clm l n id []).map (Option.map fun s => jn s acc)
  | 0, id, acc, ha => by
    by_cases e : id = 0
    · subst e; rw [clm_root, clm_root]; simp [jn_nil]
    · rw [clm_stop e, clm_stop e]; rfl
  | n + 1, id, acc, ha => by
    by_cases e : id = 0
    · subst e; rw [clm_root, clm_root]; simp [jn_nil]
    · cases hf : rFind l id with
      | none => rw [clm_none e hf, clm_none e hf]; rfl
      | some k =>
        obtain ⟨hk, _⟩ := rFind_some hf
        have hx := hn _ (List.getElem_mem hk)
        rw [clm_up e hk hf, clm_up e hk hf, if_neg ha, if_pos rfl, List.append_nil, clm_acc hn n _ (l[k].name ++ 47 :: acc) (by simp), clm_acc hn n _ l[k].name hx]
        cases clm l n l[k].parent [] with
        | none => rfl
        | some o =>
          cases o with
          | none => rfl
          | some s => simp only [Option.map_some, jn_assoc hx]
theorem clm_more : ∀ {n : Nat} {id : Int} {acc : List Nat} {r : Option (List Nat)}, clm l n id acc = some r → clm l (n + 1) id acc = some r
  | 0, id, acc, r, h => by
    by_cases e : id = 0
    · subst e; rw [clm_root] at h ⊢; exact h
    · rw [clm_stop e] at h; cases h
  | n + 1, id, acc, r, h => by
    by_cases e : id = 0
    · subst e; rw [clm_root] at h ⊢; exact h
    · cases hf : rFind l id with
      | none => rw [clm_none e hf] at h ⊢; exact h
      | some k =>
        obtain ⟨hk, _⟩ := rFind_some hf
        rw [clm_up e hk hf] at h ⊢
        exact clm_more h
/-- The path of an ID; none: nobody has it. -/
def rPath (l : List NodeV) (id : Int) : Option (List Nat) := (clm l (l.length + 1) id []).getD none
theorem TreeM.path (h : TreeM l) (id : Int) : clm l (l.length + 1) id [] = some (rPath l id) := by
  obtain ⟨r, hr⟩ := h.told id
  unfold rPath
  rw [hr]
  rfl
theorem path_root (l : List NodeV) : rPath l 0 = some [] := by unfold rPath; rw [clm_root]; rfl
theorem path_none {id : Int} (h0 : id ≠ 0) (hf : rFind l id = none) : rPath l id = none := by unfold rPath; rw [clm_none h0 hf]; rfl
theorem TreeM.named (h : TreeM l) : ∀ y ∈ l, y.name ≠ [] := fun y hy e => by
  have := (isName_iff.1 (h.nd y hy).2.2.1).1
  rw [e] at this
  simp at this
theorem TreeM.path_up (h : TreeM l) {x : NodeV} (hx : x ∈ l) : rPath l x.id = (rPath l x.parent).map fun s => jn s x.name := by
  obtain ⟨k, hk, rfl⟩ := List.getElem_of_mem hx
  have hf := srt_find h.srt hk
  have h0 : l[k].id ≠ 0 := by have := h.pos hx; omega
  have h1 := clm_more (h.path l[k].id)
  rw [clm_up h0 hk hf, if_pos rfl, List.append_nil, clm_acc h.named _ _ _ (h.named _ hx), h.path] at h1
  injection h1 with h1
  exact h1.symm
/-- Everyone in a tree has a path. -/
theorem TreeM.path_some (h : TreeM l) {x : NodeV} (hx : x ∈ l) : ∃ s, rPath l x.id = some s ∧ s ≠ [] := by
  obtain ⟨n, hn⟩ := h.ends x hx
  induction n generalizing x with
  | zero =>
    have h' : up l x.id = none := hn
    exact absurd rfl (up_no.1 h' x hx)
  | succ n ih =>
    have hp := hn x.parent ((up_iff h.srt).2 ⟨x, hx, rfl, rfl⟩)
    have hx2 := h.named x hx
    rw [h.path_up hx]
    rcases h.dirs x hx with g | ⟨q, hq, e, _⟩
    · rw [g, path_root]
      exact ⟨_, rfl, by show jn [] x.name ≠ []; rw [jn_nil]; exact hx2⟩
    · obtain ⟨s, hs, hs2⟩ := ih hq (e ▸ hp)
      rw [← e, hs]
      refine ⟨_, rfl, ?_⟩
      show jn s x.name ≠ []
      unfold jn
      rw [if_neg hs2]
      simp
end Go.Proofs.Ytmedaimndaaiiaa

/- In a tree children stand strictly by their names, and each node is the child of one. No condition. -/
namespace Go.Proofs.Ytmedaimndaaiiaa

theorem lessB_total {a b : List Nat} (ha : ∀ x ∈ a, x < 256) (hb : ∀ x ∈ b, x < 256) (h : lessB a b = false) (g : lessB b a = false) : a = b := by
  have e : (bstr a).toList = (bstr b).toList := less_total h g
  refine bstr_inj a b ha hb ?_
  by_cases q : bstr a = bstr b
  · exact q
  · have := bstr_neq q
    rw [e] at this
    simp at this
theorem kPut_sorted {acc : List NodeV} {x : NodeV} (h : acc.Pairwise fun a b => lessB a.name b.name = true) (hn : ∀ y ∈ acc, y.name ≠ x.name) (hb : ∀ y ∈ acc, ∀ c ∈ y.name, c < 256) (hx : ∀ c ∈ x.name, c < 256) :
    (kPut acc x).Pairwise fun a b => lessB a.name b.name = true := by
  have hlen : (acc.map fun y => y.name).length = acc.length := List.length_map _
  have h1 : ∀ (j : Nat) (hj : j < acc.length), kAt x.name (acc.map fun y => y.name) acc.length ≤ j → lessB x.name acc[j].name = true := fun j hj g => by
    have := kAt_behind (n := x.name) (ns := acc.map fun y => y.name) (k := acc.length) (by omega) j (by omega) g hj
    rwa [List.getElem_map] at this
  have h2 : ∀ (j : Nat) (hj : j < acc.length), j < kAt x.name (acc.map fun y => y.name) acc.length → lessB acc[j].name x.name = true := fun j hj g => by
    have hk := kAt_le x.name (acc.map fun y => y.name) acc.length
    have h3 := kAt_ahead (n := x.name) (ns := acc.map fun y => y.name) (k := acc.length) (by omega) (by omega)
    rw [List.getElem_map] at h3
    obtain ⟨k, hkk⟩ : ∃ k, kAt x.name (acc.map fun y => y.name) acc.length = k := ⟨_, rfl⟩
    simp only [hkk] at g hk h3
    have hm : k - 1 < acc.length := by omega
    have h4 : lessB acc[k - 1].name x.name = true := by
      cases q : lessB acc[k - 1].name x.name with
      | true => rfl
      | false => exact absurd (lessB_total (hb _ (List.getElem_mem hm)) hx q h3) (hn _ (List.getElem_mem hm))
    by_cases e : j = k - 1
    · subst e; exact h4
    · exact lessB_trans (List.pairwise_iff_getElem.1 h j (k - 1) hj hm (by omega)) h4
  unfold kPut
  generalize kAt x.name (acc.map fun y => y.name) acc.length = k at h1 h2
  rw [List.pairwise_append]
  refine ⟨h.sublist (List.take_sublist _ _), List.pairwise_cons.2 ⟨fun y hy => ?_, h.sublist (List.drop_sublist _ _)⟩, fun a ha b hb2 => ?_⟩
  · obtain ⟨j, hj, rfl⟩ := List.getElem_of_mem hy
    rw [List.length_drop] at hj
    rw [List.getElem_drop]
    exact h1 (k + j) (by omega) (by omega)
  · obtain ⟨i, hi, rfl⟩ := List.getElem_of_mem ha
    rw [List.length_take] at hi
    rw [List.getElem_take]
    have h5 := h2 i (by omega) (by omega)
    rcases List.mem_cons.1 hb2 with rfl | hb2
    · exact h5
    · obtain ⟨j, hj, rfl⟩ := List.getElem_of_mem hb2
      rw [List.length_drop] at hj
      rw [List.getElem_drop]
      exact lessB_trans h5 (h1 (k + j) (by omega) (by omega))
theorem TreeM.kids_sorted {l : List NodeV} (h : TreeM l) (hb : ∀ y ∈ l, ∀ c ∈ y.name, c < 256) (p : Int) : ∀ {n : Nat}, n ≤ l.length → (kids l p n).Pairwise fun a b => lessB a.name b.name = true
  | 0, _ => by rw [kids_zero]; exact List.Pairwise.nil
  | n + 1, hn => by
    have ih := h.kids_sorted hb p (n := n) (by omega)
    rw [kids_succ p hn]
    unfold kStep
    split
    · rename_i e
      refine kPut_sorted ih (fun y hy g => ?_) (fun y hy => ?_) (hb _ (List.getElem_mem hn))
      · obtain ⟨h1, h2⟩ := (kids_mem (by omega)).1 hy
        have h3 := h.uniq y (List.mem_of_mem_take h1) _ (List.getElem_mem hn) (h2.trans e.symm) g
        obtain ⟨i, hi, e2⟩ := List.getElem_of_mem h1
        rw [List.length_take] at hi
        rw [List.getElem_take] at e2
        have := List.pairwise_iff_getElem.1 h.srt i n (by omega) hn (by omega)
        rw [e2, h3] at this
        omega
      · exact hb y (List.mem_of_mem_take ((kids_mem (by omega)).1 hy).1)
    · exact ih
theorem sum_one {a : Int} : ∀ {Ps : List Int}, Ps.Nodup → (Ps.map fun q => if a = q then 1 else 0).sum = if a ∈ Ps then 1 else 0
  | [], _ => rfl
  | q :: Ps, h => by
    rw [List.nodup_cons] at h
    rw [List.map_cons, List.sum_cons, sum_one h.2]
    by_cases e : a = q
    · subst e
      rw [if_pos rfl, if_neg h.1, if_pos (List.mem_cons_self ..)]
    · rw [if_neg e]
      by_cases g : a ∈ Ps
      · rw [if_pos g, if_pos (List.mem_cons_of_mem _ g)]
      · rw [if_neg g, if_neg (fun hh => by rcases List.mem_cons.1 hh with hh | hh; exact e hh; exact g hh)]
theorem sum_add (f g : Int → Nat) : ∀ Ps : List Int, (Ps.map fun q => f q + g q).sum = (Ps.map f).sum + (Ps.map g).sum
  | [] => rfl
  | q :: Ps => by rw [List.map_cons, List.map_cons, List.map_cons, List.sum_cons, List.sum_cons, List.sum_cons, sum_add f g Ps]; omega
theorem sum_kids {Ps : List Int} (hp : Ps.Nodup) : ∀ {l : List NodeV}, (∀ x ∈ l, x.parent ∈ Ps) → (Ps.map fun q => (l.filter fun y => decide (y.parent = q)).length).sum = l.length
  | [], _ => by
    induction Ps with
    | nil => rfl
    | cons q Ps ih => rw [List.map_cons, List.sum_cons, ih (List.nodup_cons.1 hp).2 (fun y hy => by cases hy)]; rfl
  | x :: l, h => by
    have ih := sum_kids hp (l := l) fun y hy => h y (List.mem_cons_of_mem _ hy)
    have e : (Ps.map fun q => ((x :: l).filter fun y => decide (y.parent = q)).length) = Ps.map fun q => (if x.parent = q then 1 else 0) + (l.filter fun y => decide (y.parent = q)).length := by
      refine List.map_congr_left fun q _ => ?_
      rw [List.filter_cons]
      by_cases g : x.parent = q
      · rw [if_pos (by simpa using g), if_pos g, List.length_cons]; omega
      · rw [if_neg (by simpa using g), if_neg g]; omega
    rw [e, sum_add, ih, sum_one hp, if_pos (h x (List.mem_cons_self ..)), List.length_cons]
    omega
/-- Each node of a tree is the child of one. -/
theorem TreeM.children {l : List NodeV} (h : TreeM l) : ((0 :: l.map fun y => y.id).map fun q => (kids l q l.length).length).sum = l.length := by
  have hnd : (0 :: l.map fun y => y.id).Nodup := by
    rw [List.nodup_cons]
    refine ⟨fun hm => ?_, ?_⟩
    · obtain ⟨y, hy, e⟩ := List.mem_map.1 hm
      have := (h.nd y hy).1
      omega
    · refine List.Pairwise.imp (fun {a b} (hab : a < b) => by omega) ((List.pairwise_map).2 h.srt)
  have := sum_kids hnd (l := l) fun x hx => by
    rcases h.dirs x hx with g | ⟨q, hq, e, _⟩
    · rw [g]; exact List.mem_cons_self ..
    · exact List.mem_cons_of_mem _ (List.mem_map.2 ⟨q, hq, e⟩)
  refine Eq.trans ?_ this
  congr 1
  refine List.map_congr_left fun q _ => ?_
  rw [kids_length (Nat.le_refl _), List.take_length]
end Go.Proofs.Ytmedaimndaaiiaa

/- The document's own Path, Do, Children, SameNodes over a tree, told by functions. Conditions: a tree; nodes and acts that may be. -/
namespace Go.Proofs.Ytmedaimndaaiiaa
open Go.RowKit Go.Deep
variable {l : List NodeV}

/-- The nodes of a tree may be. -/
theorem TreeM.good (h : TreeM l) : ∀ y ∈ l, y.Good := by
  intro y hy
  have hnd := h.nd y hy
  refine ⟨by unfold Fit64; have := hnd.1; have := hnd.2.1; omega, ?_, ?_, ?_⟩
  · rcases h.dirs y hy with g | ⟨q, hq, e, _⟩
    · rw [g]; unfold Fit64; omega
    · have h1 := (h.nd q hq).1
      have h2 := (h.nd q hq).2.1
      unfold Fit64
      omega
  · refine ⟨fun x hx => ?_, ?_⟩
    · have := okByte_iff.1 ((isName_iff.1 hnd.2.2.1).2.2.2.2 x hx)
      omega
    · have := (isName_iff.1 hnd.2.2.1).2.1
      unfold maxLen
      omega
  · obtain ⟨vs, hv⟩ := hnd.2.2.2.2.2.1
    refine ⟨fun x hx => ?_, ?_⟩
    · rw [← hv.bytes] at hx
      exact E_lt hv.may x hx
    · have := hnd.2.2.2.2.1
      unfold maxLen
      omega
/-- An act that may be looked at. -/
def ActOk (a : ActV) : Prop := a.Good ∧ a.name.length ≤ 4000 ∧ Fine1 a.ops ∧ tlen a.ops ≤ 4000
end Go.Proofs.Ytmedaimndaaiiaa
