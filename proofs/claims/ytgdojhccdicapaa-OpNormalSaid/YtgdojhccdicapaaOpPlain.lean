/- The normal form in plain mathematics: a normal edit is its own; any edit's normal form is normal, asks for as much, and makes as much, text. Conditions: as each lemma states. -/
import Derived.Test.YtgdojhccdicapaaOpNorm
namespace Go.Proofs.Ytgdojhccdicapaa

/-- The kind of the last part. -/
def lastK (p : List CompV) : Int := match p.getLast? with | some c => c.kind | none => 0
theorem lastK_nil : lastK [] = 0 := rfl
theorem lastK_snoc (p : List CompV) (c : CompV) : lastK (p ++ [c]) = c.kind := by simp [lastK]
/-- A part of a normal edit, but for its text's bytes. -/
def Part0 (c : CompV) : Prop := ((c.kind = 1 ∨ c.kind = 3) ∧ 1 ≤ c.n ∧ c.text = []) ∨ (c.kind = 2 ∧ c.n = 0 ∧ c.text ≠ [])
/-- A normal edit, but for its texts' bytes. -/
inductive Nm : List CompV → Prop
  | nil : Nm []
  | snoc (p : List CompV) (c : CompV) : Nm p → Part0 c → lastK p ≠ c.kind → ¬ (lastK p = 3 ∧ c.kind = 2) → Nm (p ++ [c])
theorem lastK_take (l : List CompV) (k : Nat) (h : k < l.length) : lastK (l.take (k + 1)) = l[k].kind := by rw [List.take_succ_eq_append_getElem h, lastK_snoc]
theorem nm_of_nrm {l : List CompV} (h : Nrm l) : Nm l := by
  have : ∀ k, k ≤ l.length → Nm (l.take k) := by
    intro k
    induction k with
    | zero => intro _; exact .nil
    | succ k ih =>
      intro hk
      have hn := h k l[k] (List.getElem?_eq_getElem (by omega))
      have hlast : ∀ q : Int, q ≠ 0 → lastK (l.take k) = q → 0 < k ∧ ∃ p, l[k - 1]? = some p ∧ p.kind = q := fun q hq e => by
        cases k with
        | zero => rw [List.take_zero, lastK_nil] at e; omega
        | succ j => exact ⟨by omega, l[j], by rw [Nat.add_sub_cancel]; exact List.getElem?_eq_getElem (by omega), by rw [← e, lastK_take l j (by omega)]⟩
      have hk0 : l[k].kind ≠ 0 := by rcases hn.1 with ⟨h, _⟩ | ⟨h, _⟩ <;> omega
      rw [List.take_succ_eq_append_getElem (by omega)]
      refine .snoc _ _ (ih (by omega)) ?_ (fun e => ?_) (fun e => ?_)
      · rcases hn.1 with h | ⟨h1, h2, h3, _⟩
        · exact .inl h
        · exact .inr ⟨h1, h2, h3⟩
      · obtain ⟨h0, p, hp, hpk⟩ := hlast _ hk0 e
        exact hn.2 p h0 hp hpk
      · obtain ⟨h0, p, hp, hpk⟩ := hlast 3 (by omega) e.1
        rcases hn.1 with ⟨h, _⟩ | ⟨_, _, _, _, h5⟩
        · omega
        · exact h5 p h0 hp hpk
  have h2 := this l.length (Nat.le_refl _)
  rwa [List.take_length] at h2
theorem nrm_of_nm {l : List CompV} (h : Nm l) : (∀ y ∈ l, y.kind = 2 → ∃ vs, V y.text vs) → Nrm l := by
  induction h with
  | nil => intro _ i c h; simp at h
  | snoc p c hp hc h1 h2 ih =>
    intro hv i d hd
    have ihp := ih (fun y hy => hv y (List.mem_append_left _ hy))
    have hpre : ∀ j q, j ≤ p.length → 0 < j → (p ++ [c])[j - 1]? = some q → p[j - 1]? = some q := fun j q hj h0 hq => by
      rwa [List.getElem?_append_left (by omega)] at hq
    rcases Nat.lt_or_ge i p.length with hi | hi
    · rw [List.getElem?_append_left hi] at hd
      have hn := ihp i d hd
      refine ⟨?_, fun q h0 hq => hn.2 q h0 (hpre i q (by omega) h0 hq)⟩
      rcases hn.1 with h | ⟨g1, g2, g3, g4, g5⟩
      · exact .inl h
      · exact .inr ⟨g1, g2, g3, g4, fun q h0 hq => g5 q h0 (hpre i q (by omega) h0 hq)⟩
    · have hi2 : i = p.length := by
        have := (List.getElem?_eq_some_iff.1 hd).1
        rw [List.length_append] at this
        simp at this
        omega
      subst hi2
      have hdc : d = c := by simpa using hd.symm
      subst hdc
      have hq : ∀ q, 0 < p.length → (p ++ [d])[p.length - 1]? = some q → q.kind = lastK p := fun q h0 hq => by
        have e := hpre _ q (Nat.le_refl _) h0 hq
        rw [← List.getLast?_eq_getElem?] at e
        rw [lastK, e]
      refine ⟨?_, fun q h0 e => by rw [hq q h0 e]; exact h1⟩
      rcases hc with h | ⟨g1, g2, g3⟩
      · exact .inl h
      · exact .inr ⟨g1, g2, g3, hv d (by simp) g1, fun q h0 e g => h2 ⟨by rw [← hq q h0 e]; exact g, g1⟩⟩

/-- What is always so of what came ahead. -/
structure NInv (s : NS) : Prop where
  nm : Nm s.out
  keep : s.out ≠ [] → 0 < s.keep
  last : s.out ≠ [] → lastK s.out ≠ 1
  keep0 : 0 ≤ s.keep
  keep1 : s.keep ≤ 1099511627776
  gone0 : 0 ≤ s.gone
  gone1 : s.gone ≤ 1099511627776
  top : ∀ y ∈ s.out, y.n ≤ 1099511627776
theorem NInv.start : NInv nStart := ⟨.nil, fun h => absurd rfl h, fun h => absurd rfl h, Int.le_refl _, by show (0 : Int) ≤ _; omega, Int.le_refl _, by show (0 : Int) ≤ _; omega, fun y hy => by cases hy⟩
theorem NInv.kept {s : NS} (h : NInv s) : Nm (s.out ++ keepOf s.keep) ∧ (lastK (s.out ++ keepOf s.keep) = 0 ∨ lastK (s.out ++ keepOf s.keep) = 1) := by
  by_cases hk : 0 < s.keep
  · rw [keepOf, if_pos hk]
    refine ⟨.snoc _ _ h.nm (.inl ⟨.inl rfl, by show 1 ≤ s.keep; omega, rfl⟩) ?_ (fun e => by simp at e), .inr (lastK_snoc _ _)⟩
    by_cases ho : s.out = []
    · rw [ho, lastK_nil]; show (0 : Int) ≠ 1; omega
    · exact h.last ho
  · have ho : s.out = [] := by
      by_cases ho : s.out = []
      · exact ho
      · exact absurd (h.keep ho) hk
    rw [keepOf, if_neg hk, ho]
    exact ⟨.nil, .inl rfl⟩
theorem NInv.texted {s : NS} (h : NInv s) : Nm (s.out ++ keepOf s.keep ++ textOf s.text) ∧ lastK (s.out ++ keepOf s.keep ++ textOf s.text) ≠ 3 ∧ (s.text ≠ [] → lastK (s.out ++ keepOf s.keep ++ textOf s.text) = 2) := by
  obtain ⟨h1, h2⟩ := h.kept
  by_cases ht : s.text = []
  · rw [textOf, if_pos ht, List.append_nil]
    exact ⟨h1, by omega, fun e => absurd ht e⟩
  · rw [textOf, if_neg ht, lastK_snoc]
    exact ⟨.snoc _ _ h1 (.inr ⟨rfl, rfl, ht⟩) (by show _ ≠ (2 : Int); omega) (fun e => by omega), by show (2 : Int) ≠ 3; omega, fun _ => rfl⟩
theorem NInv.flush {s : NS} (h : NInv s) : Nm s.flush ∧ (s.text ≠ [] ∨ 0 < s.gone → s.flush ≠ [] ∧ lastK s.flush ≠ 1) := by
  obtain ⟨h1, h2, h3⟩ := h.texted
  rw [NS.flush]
  by_cases hg : 0 < s.gone
  · rw [goneOf, if_pos hg]
    exact ⟨.snoc _ _ h1 (.inl ⟨.inr rfl, by show 1 ≤ s.gone; omega, rfl⟩) h2 (fun e => by simp at e), fun _ => ⟨by simp, by rw [lastK_snoc]; show (3 : Int) ≠ 1; omega⟩⟩
  · rw [goneOf, if_neg hg, List.append_nil]
    refine ⟨h1, fun e => ?_⟩
    have ht : s.text ≠ [] := e.elim (fun h => h) (fun h => absurd h hg)
    have h4 := h3 ht
    refine ⟨fun e => ?_, by omega⟩
    rw [e, lastK_nil] at h4
    omega
theorem flush_top {s : NS} (h : NInv s) : ∀ y ∈ s.flush, y.n ≤ 1099511627776 := by
  intro y hy
  have h1 := h.keep1
  have h2 := h.gone1
  unfold NS.flush keepOf textOf goneOf at hy
  simp only [List.mem_append] at hy
  rcases hy with ((hy | hy) | hy) | hy
  · exact h.top y hy
  · split at hy
    · rw [List.mem_singleton.1 hy]; exact h1
    · cases hy
  · split at hy
    · cases hy
    · rw [List.mem_singleton.1 hy]; show (0 : Int) ≤ _; omega
  · split at hy
    · rw [List.mem_singleton.1 hy]; exact h2
    · cases hy
theorem NInv.step {s : NS} (h : NInv s) (c : CompV) : NInv (nStep s c) := by
  unfold nStep
  split
  · exact ⟨h.nm, h.keep, h.last, h.keep0, h.keep1, h.gone0, h.gone1, h.top⟩
  · split
    · exact ⟨h.nm, h.keep, h.last, h.keep0, h.keep1, hld_pos _ _, hld_top _ _, h.top⟩
    · split
      · exact h
      · rename_i hn
        have hpos : ∀ a : Int, 0 < hld a c.n := fun a => by
          have : ¬ c.n < 1 := fun e => hn (.inr e)
          unfold hld
          omega
        split
        · rename_i ht
          have hf := h.flush
          exact ⟨hf.1, fun _ => hpos 0, (hf.2 ht).2 |> fun e _ => e, hld_pos _ _, hld_top _ _, Int.le_refl _, by show (0 : Int) ≤ _; omega, flush_top h⟩
        · exact ⟨h.nm, fun _ => hpos s.keep, h.last, hld_pos _ _, hld_top _ _, h.gone0, h.gone1, h.top⟩
theorem run_inv (l : List CompV) : NInv (nRun l) := by
  have : ∀ (l : List CompV) (s : NS), NInv s → NInv (l.foldl nStep s) := by
    intro l
    induction l with
    | nil => intro s h; exact h
    | cons c l ih => intro s h; exact ih _ (h.step c)
  exact this l _ .start
theorem norm_nm (l : List CompV) : Nm (rNormal l) := (run_inv l).flush.1
theorem norm_top (l : List CompV) : ∀ y ∈ rNormal l, y.n ≤ 1099511627776 := flush_top (run_inv l)

theorem hld_zero {n : Int} (h : 0 ≤ n) (h1 : n ≤ 1099511627776) : hld 0 n = n := by unfold hld; omega
theorem flush_keep (o : List CompV) (n : Int) (h : 0 < n) : NS.flush ⟨o, n, 0, []⟩ = o ++ [⟨1, n, []⟩] := by simp [NS.flush, keepOf, textOf, goneOf, h]
/-- A normal edit is its own normal form. -/
theorem norm_self {l : List CompV} (h : Nm l) : (∀ y ∈ l, y.n ≤ 1099511627776) → rNormal l = l := by
  induction h with
  | nil => intro _; rfl
  | snoc p c hp hc h1 h2 ih =>
    intro ht
    have ihp : (nRun p).flush = p := ih (fun y hy => ht y (List.mem_append_left _ hy))
    have hi := run_inv p
    have htc := ht c (by simp)
    rw [rNormal, nRun_snoc]
    generalize nRun p = s at ihp hi
    have hg0 := hi.gone0
    have hk0 := hi.keep0
    obtain ⟨kd, n, t⟩ := c
    simp only at htc h1 h2
    rcases hc with ⟨hk, hn, htx⟩ | ⟨hk, hn, htx⟩
    · simp only at hk hn htx
      subst htx
      have h0 := hld_zero (n := n) (by omega) htc
      rcases hk with rfl | rfl
      · by_cases hf : s.text ≠ [] ∨ 0 < s.gone
        · rw [nStep, if_neg (by simp), if_neg (by simp), if_neg (by simp only; omega), if_pos hf]
          rw [h0, flush_keep _ _ (by omega), ihp]
        · have hte : s.text = [] := by
            by_cases e : s.text = []
            · exact e
            · exact absurd (.inl e) hf
          have hge : s.gone = 0 := by
            by_cases e : 0 < s.gone
            · exact absurd (.inr e) hf
            · omega
          rw [NS.flush, hte, hge, textOf, if_pos rfl, goneOf, if_neg (by omega), List.append_nil, List.append_nil] at ihp
          have hke : s.keep = 0 := by
            by_cases e : 0 < s.keep
            · rw [keepOf, if_pos e] at ihp
              rw [← ihp, lastK_snoc] at h1
              exact absurd rfl h1
            · omega
          have hoe : s.out = [] := by
            by_cases e : s.out = []
            · exact e
            · have := hi.keep e; omega
          rw [hke, hoe, keepOf, if_neg (by omega), List.append_nil] at ihp
          rw [nStep, if_neg (by simp), if_neg (by simp), if_neg (by simp only; omega), if_neg hf]
          simp only [NS.flush, hke, h0, hoe, hte, hge]
          rw [← ihp, keepOf, if_pos (by omega), textOf, if_pos rfl, goneOf, if_neg (by omega), List.append_nil, List.append_nil]
      · have hge : s.gone = 0 := by
          by_cases e : 0 < s.gone
          · rw [NS.flush, goneOf, if_pos e] at ihp
            rw [← ihp, lastK_snoc] at h1
            exact absurd rfl h1
          · omega
        rw [NS.flush, hge, goneOf, if_neg (by omega), List.append_nil] at ihp
        rw [nStep, if_neg (by simp), if_pos rfl]
        simp only [NS.flush, hge, h0]
        rw [goneOf, if_pos (by omega), ihp]
    · simp only at hk hn htx
      subst hk hn
      have hge : s.gone = 0 := by
        by_cases e : 0 < s.gone
        · rw [NS.flush, goneOf, if_pos e] at ihp
          rw [← ihp, lastK_snoc] at h2
          exact absurd ⟨rfl, rfl⟩ h2
        · omega
      rw [NS.flush, hge, goneOf, if_neg (by omega), List.append_nil] at ihp
      have hte : s.text = [] := by
        by_cases e : s.text = []
        · exact e
        · rw [textOf, if_neg e] at ihp
          rw [← ihp, lastK_snoc] at h1
          exact absurd rfl h1
      rw [hte, textOf, if_pos rfl, List.append_nil] at ihp
      rw [nStep, if_pos rfl]
      simp only [NS.flush, hge, hte, List.nil_append]
      rw [ihp, textOf, if_neg htx, goneOf, if_neg (by omega), List.append_nil]
theorem norm_norm (l : List CompV) : rNormal (rNormal l) = rNormal l := norm_self (norm_nm l) (norm_top l)

/-- What a part asks for, and makes. -/
def bOf (c : CompV) : Int := if c.kind = 1 ∨ c.kind = 3 then max c.n 0 else 0
def uOf (c : CompV) : Int := if c.kind = 1 then max c.n 0 else if c.kind = 2 then (loose c.text : Int) else 0
def nOf (c : CompV) : Int := max c.n 0
def sumB (l : List CompV) : Int := (l.map bOf).sum
def sumU (l : List CompV) : Int := (l.map uOf).sum
def sumN (l : List CompV) : Int := (l.map nOf).sum
theorem bOf_pos (c : CompV) : 0 ≤ bOf c ∧ bOf c ≤ nOf c := by unfold bOf nOf; split <;> omega
theorem uOf_pos (c : CompV) : 0 ≤ uOf c ∧ uOf c ≤ nOf c + c.text.length := by
  have := loose_le c.text
  unfold uOf nOf
  split
  · omega
  · split <;> omega
theorem sumB_append (a b : List CompV) : sumB (a ++ b) = sumB a + sumB b := by simp [sumB]
theorem sumU_append (a b : List CompV) : sumU (a ++ b) = sumU a + sumU b := by simp [sumU]
theorem sumN_append (a b : List CompV) : sumN (a ++ b) = sumN a + sumN b := by simp [sumN]
theorem sumB_one (c : CompV) : sumB [c] = bOf c := by simp [sumB]
theorem sumU_one (c : CompV) : sumU [c] = uOf c := by simp [sumU]
theorem sumN_one (c : CompV) : sumN [c] = nOf c := by simp [sumN]
theorem sumB_pos (l : List CompV) : 0 ≤ sumB l := by
  induction l with
  | nil => exact Int.le_refl _
  | cons c l ih => have := bOf_pos c; have h : sumB (c :: l) = bOf c + sumB l := by simp [sumB]
                   omega
theorem sumU_pos (l : List CompV) : 0 ≤ sumU l := by
  induction l with
  | nil => exact Int.le_refl _
  | cons c l ih => have := uOf_pos c; have h : sumU (c :: l) = uOf c + sumU l := by simp [sumU]
                   omega
theorem sumN_pos (l : List CompV) : 0 ≤ sumN l := by
  induction l with
  | nil => exact Int.le_refl _
  | cons c l ih => have h : sumN (c :: l) = nOf c + sumN l := by simp [sumN]
                   have : 0 ≤ nOf c := by unfold nOf; omega
                   omega
theorem sumB_mem {l : List CompV} {y : CompV} (h : y ∈ l) : bOf y ≤ sumB l := by
  obtain ⟨a, b, rfl⟩ := List.append_of_mem h
  have h1 := sumB_pos a
  have h2 := sumB_pos b
  have e : sumB (a ++ y :: b) = sumB a + (bOf y + sumB b) := by simp [sumB]
  omega
theorem base_min (l : List CompV) : rBase l = min (sumB l) 1099511627776 := by
  have : ∀ (l : List CompV) (n : Int), 0 ≤ n → n ≤ 1099511627776 → l.foldl baseStep n = min (n + sumB l) 1099511627776 := by
    intro l
    induction l with
    | nil => intro n h1 h2; show n = min (n + 0) _; omega
    | cons c l ih =>
      intro n h1 h2
      have e : sumB (c :: l) = bOf c + sumB l := by simp [sumB]
      have hp := sumB_pos l
      have e2 : baseStep n c = min (n + bOf c) 1099511627776 := by
        unfold baseStep bOf
        split
        · unfold hld; omega
        · omega
      have hb := bOf_pos c
      rw [List.foldl_cons, e, e2, ih _ (by omega) (by omega)]
      omega
  have h := this l 0 (by omega) (by omega)
  rwa [Int.zero_add] at h
theorem out_min (l : List CompV) : rOut l = min (sumU l) 1099511627776 := by
  have : ∀ (l : List CompV) (n : Int), 0 ≤ n → n ≤ 1099511627776 → l.foldl outStep n = min (n + sumU l) 1099511627776 := by
    intro l
    induction l with
    | nil => intro n h1 h2; show n = min (n + 0) _; omega
    | cons c l ih =>
      intro n h1 h2
      have e : sumU (c :: l) = uOf c + sumU l := by simp [sumU]
      have hp := sumU_pos l
      have e2 : outStep n c = min (n + uOf c) 1099511627776 := by
        unfold outStep uOf
        split
        · unfold hld; omega
        · split
          · unfold hld; omega
          · omega
      have hb := uOf_pos c
      rw [List.foldl_cons, e, e2, ih _ (by omega) (by omega)]
      omega
  have h := this l 0 (by omega) (by omega)
  rwa [Int.zero_add] at h
/-- Checked parts are few and small: such an edit is its own normal form. -/
theorem norm_checked {l : List CompV} (h : rCheck l = 0) : rNormal l = l := by
  unfold rCheck at h
  split at h
  · omega
  split at h
  · omega
  split at h
  · omega
  rename_i h1 h2 h3
  have hn : Nrm l := Classical.byContradiction fun e => h2 (nrmB_no e)
  refine norm_self (nm_of_nrm hn) fun y hy => ?_
  have hb := sumB_mem hy
  rw [base_min] at h3
  obtain ⟨i, hi, rfl⟩ := List.getElem_of_mem hy
  rcases (hn i _ (List.getElem?_eq_getElem hi)).1 with ⟨hk, _⟩ | ⟨_, hz, _⟩
  · rw [bOf, if_pos hk] at hb
    omega
  · omega

theorem V.append {a b va vb : List Nat} (h1 : V a va) (h2 : V b vb) : V (a ++ b) (va ++ vb) := by
  refine ⟨fun v hv => ?_, by rw [E_append, h1.bytes, h2.bytes]⟩
  rcases List.mem_append.1 hv with hv | hv
  · exact h1.may v hv
  · exact h2.may v hv
theorem loose_append {a b : List Nat} (h1 : ∃ v, V a v) (h2 : ∃ v, V b v) : loose (a ++ b) = loose a + loose b := by
  obtain ⟨va, h1⟩ := h1
  obtain ⟨vb, h2⟩ := h2
  rw [(h1.append h2).loose, h1.loose, h2.loose, List.length_append]
/-- All texts are Valid. -/
def AllV (l : List CompV) : Prop := ∀ y ∈ l, ∃ vs, V y.text vs
/-- What came ahead asks for, and makes, what it did. -/
structure NSum (s : NS) (b u : Int) : Prop where
  base : sumB s.out + s.keep + s.gone = b
  out : sumU s.out + s.keep + (loose s.text : Int) = u
theorem sum_flush {s : NS} {b : Int} (hi : NInv s) (h : sumB s.out + s.keep + s.gone = b) : sumB s.flush = b := by
  have h1 := hi.keep0
  have h2 := hi.gone0
  rw [NS.flush, sumB_append, sumB_append, sumB_append]
  have e1 : sumB (keepOf s.keep) = s.keep := by
    unfold keepOf; split
    · rw [sumB_one, bOf, if_pos (.inl rfl)]; show max s.keep 0 = _; omega
    · show 0 = s.keep; omega
  have e2 : sumB (textOf s.text) = 0 := by
    unfold textOf; split
    · rfl
    · rw [sumB_one, bOf, if_neg (by simp)]
  have e3 : sumB (goneOf s.gone) = s.gone := by
    unfold goneOf; split
    · rw [sumB_one, bOf, if_pos (.inr rfl)]; show max s.gone 0 = _; omega
    · show 0 = s.gone; omega
  omega
theorem sumU_flush {s : NS} {u : Int} (hi : NInv s) (h : sumU s.out + s.keep + (loose s.text : Int) = u) : sumU s.flush = u := by
  have h1 := hi.keep0
  rw [NS.flush, sumU_append, sumU_append, sumU_append]
  have e1 : sumU (keepOf s.keep) = s.keep := by
    unfold keepOf; split
    · rw [sumU_one, uOf, if_pos rfl]; show max s.keep 0 = _; omega
    · show 0 = s.keep; omega
  have e2 : sumU (textOf s.text) = (loose s.text : Int) := by
    unfold textOf; split
    · rename_i e; rw [e, loose_nil]; rfl
    · rw [sumU_one, uOf, if_neg (by simp), if_pos rfl]
  have e3 : sumU (goneOf s.gone) = 0 := by
    unfold goneOf; split
    · rw [sumU_one, uOf, if_neg (by simp), if_neg (by simp)]
    · rfl
  omega
theorem sum_step {s : NS} {b : Int} (hi : NInv s) (c : CompV) (h : sumB s.out + s.keep + s.gone = b) (hb : b + nOf c ≤ 1099511627776) :
    sumB (nStep s c).out + (nStep s c).keep + (nStep s c).gone = b + bOf c := by
  have h1 := hi.keep0; have h2 := hi.gone0; have h3 := sumB_pos s.out
  unfold nOf at hb
  unfold nStep
  split
  · rename_i e
    rw [bOf, if_neg (by omega)]; show sumB s.out + s.keep + s.gone = _; omega
  · split
    · rename_i e
      rw [bOf, if_pos (.inr e)]
      show sumB s.out + s.keep + hld s.gone c.n = _
      unfold hld
      omega
    · split
      · rename_i e1 e2 e3
        show sumB s.out + s.keep + s.gone = _
        by_cases hk : c.kind = 1
        · rw [bOf, if_pos (.inl hk)]; omega
        · rw [bOf, if_neg (by omega)]; omega
      · rename_i e1 e2 e3
        have hk : c.kind = 1 := Classical.byContradiction fun e => e3 (.inl e)
        rw [bOf, if_pos (show c.kind = 1 ∨ c.kind = 3 from .inl hk)]
        split
        · show sumB s.flush + hld 0 c.n + 0 = _
          rw [sum_flush hi h]
          unfold hld
          omega
        · show sumB s.out + hld s.keep c.n + s.gone = _
          unfold hld
          omega
theorem sumU_step {s : NS} {u : Int} (hi : NInv s) (c : CompV) (h : sumU s.out + s.keep + (loose s.text : Int) = u) (hu : u + nOf c ≤ 1099511627776) (hs : ∃ v, V s.text v) (hc : ∃ v, V c.text v) :
    sumU (nStep s c).out + (nStep s c).keep + (loose (nStep s c).text : Int) = u + uOf c := by
  have h1 := hi.keep0; have h2 := hi.gone0; have h3 := sumU_pos s.out
  unfold nOf at hu
  unfold nStep
  split
  · rename_i e
    rw [uOf, if_neg (by omega), if_pos e]
    show sumU s.out + s.keep + (loose (s.text ++ c.text) : Int) = _
    rw [loose_append hs hc]
    omega
  · split
    · rename_i e
      rw [uOf, if_neg (by omega), if_neg (by omega)]
      show sumU s.out + s.keep + (loose s.text : Int) = _
      omega
    · split
      · rename_i e1 e2 e3
        show sumU s.out + s.keep + (loose s.text : Int) = _
        by_cases hk : c.kind = 1
        · rw [uOf, if_pos hk]; omega
        · rw [uOf, if_neg hk, if_neg e1]; omega
      · rename_i e1 e2 e3
        have hk : c.kind = 1 := Classical.byContradiction fun e => e3 (.inl e)
        rw [uOf, if_pos hk]
        split
        · show sumU s.flush + hld 0 c.n + (loose [] : Int) = _
          have := sumU_flush hi h
          rw [this, loose_nil]
          unfold hld
          omega
        · show sumU s.out + hld s.keep c.n + (loose s.text : Int) = _
          unfold hld
          omega
theorem allV_flush {s : NS} (h1 : AllV s.out) (h2 : ∃ v, V s.text v) : AllV s.flush := by
  intro y hy
  unfold NS.flush keepOf textOf goneOf at hy
  simp only [List.mem_append] at hy
  rcases hy with ((hy | hy) | hy) | hy
  · exact h1 y hy
  · split at hy
    · rw [List.mem_singleton.1 hy]; exact ⟨[], V.nil⟩
    · cases hy
  · split at hy
    · cases hy
    · rw [List.mem_singleton.1 hy]; exact h2
  · split at hy
    · rw [List.mem_singleton.1 hy]; exact ⟨[], V.nil⟩
    · cases hy
theorem allV_step {s : NS} {c : CompV} (h1 : AllV s.out) (h2 : ∃ v, V s.text v) (hc : ∃ v, V c.text v) : AllV (nStep s c).out ∧ ∃ v, V (nStep s c).text v := by
  unfold nStep
  split
  · obtain ⟨va, ha⟩ := h2
    obtain ⟨vb, hb⟩ := hc
    exact ⟨h1, _, ha.append hb⟩
  · split
    · exact ⟨h1, h2⟩
    · split
      · exact ⟨h1, h2⟩
      · split
        · exact ⟨allV_flush h1 h2, [], V.nil⟩
        · exact ⟨h1, h2⟩
theorem run_base (l : List CompV) (h : sumN l ≤ 1099511627776) : sumB (nRun l).out + (nRun l).keep + (nRun l).gone = sumB l := by
  have : ∀ (l : List CompV) (s : NS) (b : Int), NInv s → sumB s.out + s.keep + s.gone = b → b + sumN l ≤ 1099511627776 → sumB (l.foldl nStep s).out + (l.foldl nStep s).keep + (l.foldl nStep s).gone = b + sumB l := by
    intro l
    induction l with
    | nil => intro s b _ h _; rw [List.foldl_nil, h]; show b = b + 0; omega
    | cons c l ih =>
      intro s b hi h hb
      have e1 : sumN (c :: l) = nOf c + sumN l := by simp [sumN]
      have e2 : sumB (c :: l) = bOf c + sumB l := by simp [sumB]
      have hp := sumN_pos l
      have hbo := bOf_pos c
      rw [List.foldl_cons, ih _ (b + bOf c) (hi.step c) (sum_step hi c h (by omega)) (by omega), e2]
      omega
  have h2 := this l nStart 0 .start rfl (by omega)
  rwa [Int.zero_add] at h2
theorem run_out (l : List CompV) (hv : AllV l) (h : sumN l + tlen l ≤ 1099511627776) : sumU (nRun l).out + (nRun l).keep + (loose (nRun l).text : Int) = sumU l := by
  have : ∀ (l : List CompV) (s : NS) (u : Int), NInv s → AllV l → AllV s.out → (∃ v, V s.text v) → sumU s.out + s.keep + (loose s.text : Int) = u → u + sumN l + tlen l ≤ 1099511627776 → sumU (l.foldl nStep s).out + (l.foldl nStep s).keep + (loose (l.foldl nStep s).text : Int) = u + sumU l := by
    intro l
    induction l with
    | nil => intro s u _ _ _ _ h _; rw [List.foldl_nil, h]; show u = u + 0; omega
    | cons c l ih =>
      intro s u hi hv hso hst h hu
      have e1 : sumN (c :: l) = nOf c + sumN l := by simp [sumN]
      have e2 : sumU (c :: l) = uOf c + sumU l := by simp [sumU]
      have e3 : tlen (c :: l) = c.text.length + tlen l := by simp [tlen]
      have hp := sumN_pos l
      have huo := uOf_pos c
      have hcv := hv c (by simp)
      have hst2 := allV_step hso hst hcv
      rw [List.foldl_cons, ih _ (u + uOf c) (hi.step c) (fun y hy => hv y (by simp [hy])) hst2.1 hst2.2 (sumU_step hi c h (by omega) hst hcv) (by omega), e2]
      omega
  have h2 := this l nStart 0 .start hv (fun y hy => by cases hy) ⟨[], V.nil⟩ (by show (0 : Int) + 0 + (loose [] : Int) = 0; rw [loose_nil]; rfl) (by omega)
  rwa [Int.zero_add] at h2
theorem run_allV (l : List CompV) (hv : AllV l) : AllV (rNormal l) := by
  have : ∀ (l : List CompV) (s : NS), AllV l → AllV s.out → (∃ v, V s.text v) → AllV (l.foldl nStep s).out ∧ ∃ v, V (l.foldl nStep s).text v := by
    intro l
    induction l with
    | nil => intro s _ h1 h2; exact ⟨h1, h2⟩
    | cons c l ih =>
      intro s hv h1 h2
      have hst := allV_step h1 h2 (hv c (by simp))
      exact ih _ (fun y hy => hv y (by simp [hy])) hst.1 hst.2
  have h := this l nStart hv (fun y hy => by cases hy) ⟨[], V.nil⟩
  exact allV_flush h.1 h.2
theorem norm_base (l : List CompV) (h : sumN l ≤ 1099511627776) : rBase (rNormal l) = rBase l := by
  rw [base_min, base_min, rNormal, sum_flush (run_inv l) (run_base l h)]
theorem norm_out (l : List CompV) (hv : AllV l) (h : sumN l + tlen l ≤ 1099511627776) : rOut (rNormal l) = rOut l := by
  rw [out_min, out_min, rNormal, sumU_flush (run_inv l) (run_out l hv h)]
theorem norm_check (l : List CompV) (hv : AllV l) (h1 : (rNormal l).length ≤ 100) (h2 : rBase (rNormal l) ≤ 2000) (h3 : rOut (rNormal l) ≤ 2000) : rCheck (rNormal l) = 0 := by
  have hn : Nrm (rNormal l) := nrm_of_nm (norm_nm l) (fun y hy _ => run_allV l hv y hy)
  rw [rCheck, if_neg (by omega), nrmB_yes hn, if_neg (by simp), if_neg (by omega)]

/-- How much text there is in all, and which bytes. -/
theorem tlen_flush (s : NS) : tlen s.flush = tlen s.out + s.text.length := by
  rw [NS.flush, tlen_append, tlen_append, tlen_append]
  have e1 : tlen (keepOf s.keep) = 0 := by unfold keepOf; split <;> rfl
  have e2 : tlen (textOf s.text) = s.text.length := by
    unfold textOf; split
    · rename_i e; rw [e]; rfl
    · simp [tlen]
  have e3 : tlen (goneOf s.gone) = 0 := by unfold goneOf; split <;> rfl
  omega
theorem tlen_step (s : NS) (c : CompV) : tlen (nStep s c).out + (nStep s c).text.length ≤ tlen s.out + s.text.length + c.text.length := by
  unfold nStep
  split
  · show tlen s.out + (s.text ++ c.text).length ≤ _
    rw [List.length_append]; omega
  · split
    · show tlen s.out + s.text.length ≤ _; omega
    · split
      · omega
      · split
        · show tlen s.flush + 0 ≤ _
          rw [tlen_flush]; omega
        · show tlen s.out + s.text.length ≤ _; omega
theorem tlen_norm (l : List CompV) : tlen (rNormal l) ≤ tlen l := by
  have : ∀ (l : List CompV) (s : NS), tlen (l.foldl nStep s).out + (l.foldl nStep s).text.length ≤ tlen s.out + s.text.length + tlen l := by
    intro l
    induction l with
    | nil => intro s; exact Nat.le_add_right _ _
    | cons c l ih =>
      intro s
      have e : tlen (c :: l) = c.text.length + tlen l := by simp [tlen]
      have h1 := ih (nStep s c)
      have h2 := tlen_step s c
      rw [List.foldl_cons, e]
      omega
  have h := this l nStart
  rw [rNormal, tlen_flush]
  have e : tlen nStart.out + nStart.text.length = 0 := rfl
  have e2 : nRun l = l.foldl nStep nStart := rfl
  rw [e2]
  omega
theorem norm_len (l : List CompV) : (rNormal l).length ≤ 3 * l.length + 3 := Nat.le_trans (flush_length _) (by have := (run_fit l).out; omega)
/-- A part as memory may hold it. -/
def Gd (c : CompV) : Prop := Fit64 c.kind ∧ Fit64 c.n ∧ ∀ x ∈ c.text, x < 256
theorem gd_flush {s : NS} (hi : NInv s) (h1 : ∀ y ∈ s.out, Gd y) (h2 : ∀ x ∈ s.text, x < 256) : ∀ y ∈ s.flush, Gd y := by
  intro y hy
  have k0 := hi.keep0; have k1 := hi.keep1; have g0 := hi.gone0; have g1 := hi.gone1
  unfold NS.flush keepOf textOf goneOf at hy
  simp only [List.mem_append] at hy
  rcases hy with ((hy | hy) | hy) | hy
  · exact h1 y hy
  · split at hy
    · rw [List.mem_singleton.1 hy]; exact ⟨by unfold Fit64; simp, by unfold Fit64; show _ ≤ s.keep ∧ s.keep ≤ _; omega, fun x hx => by cases hx⟩
    · cases hy
  · split at hy
    · cases hy
    · rw [List.mem_singleton.1 hy]; exact ⟨by unfold Fit64; simp, by unfold Fit64; simp, h2⟩
  · split at hy
    · rw [List.mem_singleton.1 hy]; exact ⟨by unfold Fit64; simp, by unfold Fit64; show _ ≤ s.gone ∧ s.gone ≤ _; omega, fun x hx => by cases hx⟩
    · cases hy
theorem norm_good (l : List CompV) (hg : ∀ y ∈ l, y.Good) (ht : tlen l ≤ 1099511627776) : ∀ y ∈ rNormal l, y.Good := by
  have : ∀ (l : List CompV) (s : NS), (∀ y ∈ l, y.Good) → NInv s → (∀ y ∈ s.out, Gd y) → (∀ x ∈ s.text, x < 256) → (∀ y ∈ (l.foldl nStep s).out, Gd y) ∧ ∀ x ∈ (l.foldl nStep s).text, x < 256 := by
    intro l
    induction l with
    | nil => intro s _ _ h1 h2; exact ⟨h1, h2⟩
    | cons c l ih =>
      intro s hg hi h1 h2
      have hc := hg c (by simp)
      have hs : (∀ y ∈ (nStep s c).out, Gd y) ∧ ∀ x ∈ (nStep s c).text, x < 256 := by
        unfold nStep
        split
        · refine ⟨h1, fun x hx => ?_⟩
          rcases List.mem_append.1 hx with hx | hx
          · exact h2 x hx
          · exact hc.2.2.1 x hx
        · split
          · exact ⟨h1, h2⟩
          · split
            · exact ⟨h1, h2⟩
            · split
              · exact ⟨gd_flush hi h1 h2, fun x hx => by cases hx⟩
              · exact ⟨h1, h2⟩
      exact ih _ (fun y hy => hg y (by simp [hy])) (hi.step c) hs.1 hs.2
  have h := this l nStart hg .start (fun y hy => by cases hy) (fun x hx => by cases hx)
  have h2 := gd_flush (run_inv l) h.1 h.2
  intro y hy
  have h3 := h2 y hy
  have h4 : y.text.length ≤ tlen (rNormal l) := by
    obtain ⟨i, hi, rfl⟩ := List.getElem_of_mem hy
    have := tlen_get hi
    omega
  have h5 := tlen_norm l
  exact ⟨h3.1, h3.2.1, h3.2.2, by unfold maxLen; omega⟩
end Go.Proofs.Ytgdojhccdicapaa
