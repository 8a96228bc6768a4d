/- The edits of the limits in plain mathematics: parts by turns, a long text ahead of a long Retain, edits that are none: what the check says of each. No condition. -/
import Derived.Test.YtgdojhccdicapaaOpAwake
import Derived.Test.YtgdojhccdicapaaBlocks
namespace Go.Proofs.Ytgdojhccdicapaa

/-- Parts by turns. -/
def turnP (i : Nat) : CompV := ⟨if i % 2 = 1 then 3 else 1, 1, []⟩
def turns (k : Nat) : List CompV := (List.range k).map turnP
theorem turns_length (k : Nat) : (turns k).length = k := by simp [turns]
theorem turns_succ (k : Nat) : turns (k + 1) = turns k ++ [turnP k] := by simp [turns, List.range_succ]
theorem turns_at {k i : Nat} {c : CompV} (h : (turns k)[i]? = some c) : i < k ∧ c = turnP i := by
  have hi : i < k := by have := (List.getElem?_eq_some_iff.1 h).1; rwa [turns_length] at this
  rw [turns, List.getElem?_map, List.getElem?_range hi] at h
  injection h with h
  exact ⟨hi, h.symm⟩
theorem turnP_kind (i : Nat) : (turnP i).kind = 1 ∨ (turnP i).kind = 3 := by
  show (if i % 2 = 1 then (3 : Int) else 1) = 1 ∨ (if i % 2 = 1 then (3 : Int) else 1) = 3
  split
  · exact .inr rfl
  · exact .inl rfl
theorem turns_nrm (k : Nat) : Nrm (turns k) := by
  intro i c h
  obtain ⟨hi, rfl⟩ := turns_at h
  refine ⟨.inl ⟨turnP_kind i, by show (1 : Int) ≤ 1; omega, rfl⟩, fun p h0 hp => ?_⟩
  obtain ⟨_, rfl⟩ := turns_at hp
  show (if (i - 1) % 2 = 1 then (3 : Int) else 1) ≠ (if i % 2 = 1 then 3 else 1)
  by_cases e : i % 2 = 1
  · rw [if_pos e, if_neg (by omega)]; omega
  · rw [if_neg e, if_pos (by omega)]; omega
theorem turns_base (k : Nat) (h : k ≤ 1000) : rBase (turns k) = (k : Int) := by
  induction k with
  | zero => rfl
  | succ k ih =>
    rw [turns_succ, rBase_snoc, ih (by omega), baseStep, if_pos (turnP_kind k)]
    show hld (k : Int) 1 = _
    rw [hld_small (by omega) (by omega) (by omega)]
    omega
theorem turns_out (k : Nat) (h : k ≤ 1000) : rOut (turns k) ≤ (k : Int) ∧ 0 ≤ rOut (turns k) := by
  induction k with
  | zero => exact ⟨Int.le_refl _, Int.le_refl _⟩
  | succ k ih =>
    obtain ⟨h1, h2⟩ := ih (by omega)
    rw [turns_succ, rOut_snoc, outStep]
    by_cases e : (turnP k).kind = 1
    · rw [if_pos e, show (turnP k).n = 1 from rfl, hld_small h2 (by omega) (by omega)]
      omega
    · have e3 := (turnP_kind k).resolve_left e
      rw [if_neg e, if_neg (by omega)]
      omega
theorem turns_check (k : Nat) (h : k ≤ 110) : rCheck (turns k) = if 100 < k then 3 else 0 := by
  have h1 := turns_base k (by omega)
  have h2 := turns_out k (by omega)
  unfold rCheck
  rw [turns_length]
  by_cases e : 100 < k
  · rw [if_pos e, if_pos e]
  · rw [if_neg e, if_neg e, nrmB_yes (turns_nrm k), if_neg (by simp), if_neg (by omega)]
theorem turns_fine (k : Nat) : Fine1 (turns k) := by
  intro y hy
  obtain ⟨i, _, rfl⟩ := List.mem_map.1 hy
  have hk := turnP_kind i
  exact ⟨⟨by unfold Fit64; omega, by unfold Fit64; show _ ≤ (1 : Int) ∧ (1 : Int) ≤ _; omega, by unfold Bytes; show (∀ x ∈ ([] : List Nat), x < 256) ∧ ([] : List Nat).length ≤ _; simp⟩, by show ([] : List Nat).length ≤ _; simp⟩

theorem E_small (l : List Nat) (h : ∀ x ∈ l, x < 128) : E l = l := by
  induction l with
  | nil => exact E_nil
  | cons x l ih =>
    have e : enc x = [x] := by unfold enc; rw [if_pos (h x (by simp))]
    rw [E_cons, e, ih (fun y hy => h y (by simp [hy]))]
    rfl
theorem V_blks (t : Nat) (n : Int) : V (blks t n) (blks t n) :=
  ⟨fun v hv => by have := blks_lt t n v hv; unfold May; omega, E_small _ fun x hx => by have := blks_lt t n x hx; omega⟩

/-- A text ahead of a Retain, if there is one. -/
def longL (n : Int) (t : Nat) : List CompV := if t = 0 then [⟨1, n, []⟩] else [⟨2, 0, blks t 2⟩, ⟨1, n, []⟩]
theorem whole_keep (n : Int) (h : 1 ≤ n) : Whole ⟨1, n, []⟩ := .inl ⟨.inl rfl, h, rfl⟩
theorem whole_text (t : Nat) (h : t ≠ 0) (n : Int) : Whole ⟨2, 0, blks t n⟩ := by
  refine .inr ⟨rfl, rfl, ?_, _, V_blks t n⟩
  show blks t n ≠ []
  intro e
  have := congrArg List.length e
  rw [blks_length] at this
  exact h this
theorem long_check (n : Int) (t : Nat) (h1 : 1 ≤ n) (h2 : n ≤ 2010) (h3 : t ≤ 2010) : rCheck (longL n t) = if 2000 < n + (t : Int) then 3 else 0 := by
  unfold longL
  by_cases e : t = 0
  · subst e
    have hN : Nrm [⟨1, n, []⟩] := nrm_cons (whole_keep n h1) nrm_nil (fun d h => by simp at h)
    have hb : rBase [⟨1, n, []⟩] = n := by show baseStep 0 ⟨1, n, []⟩ = n; rw [baseStep, if_pos (.inl rfl)]; show hld 0 n = n; rw [hld_small (by omega) (by omega) (by omega)]; omega
    have ho : rOut [⟨1, n, []⟩] = n := by show outStep 0 ⟨1, n, []⟩ = n; rw [outStep, if_pos rfl]; show hld 0 n = n; rw [hld_small (by omega) (by omega) (by omega)]; omega
    rw [if_pos rfl, rCheck, nrmB_yes hN, hb, ho, if_neg (by simp), if_neg (by simp)]
    by_cases e2 : 2000 < n
    · rw [if_pos (.inl e2), if_pos (by omega)]
    · rw [if_neg (by omega), if_neg (by omega)]
  · have hN : Nrm [⟨2, 0, blks t 2⟩, ⟨1, n, []⟩] := nrm_cons (whole_text t e 2) (nrm_cons (whole_keep n h1) nrm_nil (fun d h => by simp at h)) (fun d h => by simp at h; subst h; simp)
    have hl : loose (blks t 2) = t := by rw [(V_blks t 2).loose, blks_length]
    have hb : rBase [⟨2, 0, blks t 2⟩, ⟨1, n, []⟩] = n := by
      show baseStep (baseStep 0 ⟨2, 0, blks t 2⟩) ⟨1, n, []⟩ = n
      rw [baseStep, if_pos (.inl rfl), baseStep, if_neg (by simp)]
      show hld 0 n = n
      rw [hld_small (by omega) (by omega) (by omega)]; omega
    have ho : rOut [⟨2, 0, blks t 2⟩, ⟨1, n, []⟩] = (t : Int) + n := by
      show outStep (outStep 0 ⟨2, 0, blks t 2⟩) ⟨1, n, []⟩ = (t : Int) + n
      rw [outStep, if_pos rfl, outStep, if_neg (by simp), if_pos rfl]
      show hld (hld 0 (loose (blks t 2) : Int)) n = _
      rw [hl, hld_small (a := 0) (by omega) (by omega) (by omega), hld_small (by omega) (by omega) (by omega)]
      omega
    rw [if_neg e, rCheck, nrmB_yes hN, hb, ho, if_neg (by simp), if_neg (by simp)]
    by_cases e2 : 2000 < n + (t : Int)
    · rw [if_pos (.inr (by omega)), if_pos e2]
    · rw [if_neg (by omega), if_neg e2]
theorem long_fine (n : Int) (t : Nat) (h1 : 1 ≤ n) (h2 : n ≤ 2010) (h3 : t ≤ 2010) : Fine1 (longL n t) := by
  have k1 : (CompV.mk 1 n []).Good ∧ ([] : List Nat).length ≤ 1099511627776 := ⟨good_of _ _ _ (by omega) (by omega) (by simp), by simp⟩
  have k2 : (CompV.mk 2 0 (blks t 2)).Good ∧ (blks t 2).length ≤ 1099511627776 := by
    have hl := blks_length t 2
    exact ⟨good_of _ _ _ (by omega) (by omega) ⟨fun x hx => by have := blks_lt t 2 x hx; omega, by omega⟩, by omega⟩
  intro y hy
  unfold longL at hy
  split at hy
  · rw [List.mem_singleton.1 hy]; exact k1
  · rcases List.mem_cons.1 hy with rfl | hy
    · exact k2
    · rw [List.mem_singleton.1 hy]; exact k1

/-- Edits that are none. -/
def badL : List (List CompV) := [[⟨1, 0, []⟩], [⟨2, 0, []⟩], [⟨3, 1, []⟩, ⟨2, 0, [97]⟩], [⟨1, 1, []⟩, ⟨1, 1, []⟩], [⟨1, 1, [97]⟩], [⟨2, 1, [97]⟩], [⟨2, 0, [255]⟩], [⟨0, 0, []⟩]]
theorem no_255 : ¬ ∃ vs, V [255] vs := no_text (by simp) (by rw [st_cons]; simp)
theorem check_bad {l : List CompV} (h : l.length ≤ 100) (hn : ¬ Nrm l) : rCheck l = 1 := by
  rw [rCheck, if_neg (by omega), nrmB_no hn, if_pos rfl]
theorem bad_one {c : CompV} (h : ¬ Whole c) : rCheck [c] = 1 := by
  refine check_bad (by simp) fun hn => h ?_
  rcases (hn 0 c rfl).1 with h | ⟨h1, h2, h3, h4, _⟩
  · exact .inl h
  · exact .inr ⟨h1, h2, h3, h4⟩
theorem bad_check {l : List CompV} (h : l ∈ badL) : rCheck l = 1 := by
  unfold badL at h
  simp only [List.mem_cons, List.not_mem_nil, or_false] at h
  rcases h with rfl | rfl | rfl | rfl | rfl | rfl | rfl | rfl
  · exact bad_one fun h => by rcases h with ⟨_, h, _⟩ | ⟨h, _⟩ <;> simp at h
  · exact bad_one fun h => by rcases h with ⟨h, _⟩ | ⟨_, _, h, _⟩ <;> simp at h
  · refine check_bad (by simp) fun hn => ?_
    rcases (hn 1 _ rfl).1 with ⟨h, _⟩ | ⟨_, _, _, _, h⟩
    · simp at h
    · exact h _ (by omega) rfl rfl
  · exact check_bad (by simp) fun hn => (hn 1 _ rfl).2 _ (by omega) rfl rfl
  · exact bad_one fun h => by rcases h with ⟨_, _, h⟩ | ⟨h, _⟩ <;> simp at h
  · exact bad_one fun h => by rcases h with ⟨h, _⟩ | ⟨_, h, _⟩ <;> simp at h
  · exact bad_one fun h => by
      rcases h with ⟨h, _⟩ | ⟨_, _, _, h⟩
      · simp at h
      · exact no_255 h
  · exact bad_one fun h => by rcases h with ⟨h, _⟩ | ⟨h, _⟩ <;> simp at h
theorem bad_fine {l : List CompV} (h : l ∈ badL) : Fine1 l ∧ l.length ≤ 2 := by
  unfold badL at h
  simp only [List.mem_cons, List.not_mem_nil, or_false] at h
  have k : ∀ (a b : Int) (t : List Nat), 0 ≤ a ∧ a ≤ 9 → 0 ≤ b ∧ b ≤ 1099511627776 → (∀ x ∈ t, x < 256) ∧ t.length ≤ 1099511627776 → (CompV.mk a b t).Good ∧ t.length ≤ 1099511627776 := fun a b t h1 h2 h3 => ⟨good_of _ _ _ h1 h2 h3, h3.2⟩
  rcases h with rfl | rfl | rfl | rfl | rfl | rfl | rfl | rfl <;> refine ⟨fun y hy => ?_, by simp⟩ <;> simp only [List.mem_cons, List.not_mem_nil, or_false] at hy
  · subst hy; exact k _ _ _ (by omega) (by omega) (by simp)
  · subst hy; exact k _ _ _ (by omega) (by omega) (by simp)
  · rcases hy with rfl | rfl <;> exact k _ _ _ (by omega) (by omega) (by simp)
  · rcases hy with rfl | rfl <;> exact k _ _ _ (by omega) (by omega) (by simp)
  · subst hy; exact k _ _ _ (by omega) (by omega) (by simp)
  · subst hy; exact k _ _ _ (by omega) (by omega) (by simp)
  · subst hy; exact k _ _ _ (by omega) (by omega) (by simp)
  · subst hy; exact k _ _ _ (by omega) (by omega) (by simp)
end Go.Proofs.Ytgdojhccdicapaa
