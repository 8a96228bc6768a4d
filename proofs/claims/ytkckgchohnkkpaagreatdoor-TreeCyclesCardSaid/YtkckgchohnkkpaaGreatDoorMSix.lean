/- What a move among six directories does, told by the two paths. No condition. (Merged of 3 texts.) -/
import Derived.Test.YtkckgchohnkkpaaGreatDoorMSeek
import Derived.Test.YtkckgchohnkkpaaGreatDoorMTTreeWithin
import Derived.Test.YtkckgchohnkkpaaGreatDoorMKit
/- Who stands within whom, by their paths. Condition: a tree. -/
namespace Go.Proofs.YtkckgchohnkkpaaGreatDoor

/-- A path leads through another one. -/
def Under (p q : List Nat) : Prop := q = p ∨ ∃ r, q = p ++ 47 :: r
theorem cut_last {a n p r : List Nat} (hn : ∀ c ∈ n, c ≠ 47) (h : a ++ 47 :: n = p ++ 47 :: r) : Under p a := by
  rcases List.append_eq_append_iff.1 h with ⟨x, h1, h2⟩ | ⟨x, h1, h2⟩
  · cases x with
    | nil => exact .inl (by rw [h1, List.append_nil])
    | cons c x =>
      rw [List.cons_append] at h2
      injection h2 with _ h2
      exact absurd rfl (hn 47 (by rw [h2]; simp))
  · cases x with
    | nil => exact .inl (by rw [h1, List.append_nil])
    | cons c x =>
      rw [List.cons_append] at h2
      injection h2 with h3 _
      exact .inr ⟨x, by rw [h1, ← h3]⟩
variable {l : List NodeV}
theorem within_step (hm : TreeM l) {y : NodeV} (hy : y ∈ l) {top : Int} (ht : top ≠ 0) : rWithin l y.id top = true ↔ y.id = top ∨ rWithin l y.parent top = true := by
  obtain ⟨k, hk, rfl⟩ := List.getElem_of_mem hy
  have hf := srt_find hm.srt hk
  have h0 : l[k].id ≠ 0 := by have := hm.pos hy; omega
  obtain ⟨r, hr⟩ := hm.line hy
  obtain ⟨n, hn⟩ : ∃ n, l.length = n + 1 := ⟨l.length - 1, by omega⟩
  rw [rWithin_def, rWithin_def]
  rw [hn, lineF_up h0 hk hf] at hr
  obtain ⟨s, _, hs⟩ := line_within (rFind_no fun y hy => by have := hm.pos hy; omega) ht n _ _ r hr
  rw [hn]
  by_cases e : l[k].id = top
  · rw [e, wthn_top]
    simp
  · rw [wthn_up e hk hf, hs (n + 1) (by omega), hs (n + 1 + 1) (by omega)]
    simp [e]
theorem name_no_cut {s : List Nat} (h : IsName s) : ∀ c ∈ s, c ≠ 47 := fun c hc e => by
  have := okByte_iff.1 ((isName_iff.1 h).2.2.2.2 c hc)
  omega
theorem path_inj (hm : TreeM l) {x y : NodeV} (hx : x ∈ l) (hy : y ∈ l) {s : List Nat} (h1 : rPath l x.id = some s) (h2 : rPath l y.id = some s) : x.id = y.id := by
  obtain ⟨s1, e1, _, _, w1⟩ := seek_path hm hx
  obtain ⟨s2, e2, _, _, w2⟩ := seek_path hm hy
  rw [h1] at e1
  rw [h2] at e2
  injection e1 with e1
  injection e2 with e2
  rw [← e1] at w1
  rw [← e2, w1] at w2
  exact congrArg Prod.fst w2
theorem within_under (hm : TreeM l) {x y : NodeV} (hx : x ∈ l) (hy : y ∈ l) : ∃ p q, rPath l x.id = some p ∧ rPath l y.id = some q ∧ (rWithin l y.id x.id = true ↔ Under p q) := by
  obtain ⟨p, hp, hp0⟩ := hm.path_some hx
  have hxi : x.id ≠ 0 := by have := hm.pos hx; omega
  obtain ⟨n, hn⟩ := hm.ends y hy
  induction n generalizing y with
  | zero =>
    have h' : up l y.id = none := hn
    exact absurd rfl (up_no.1 h' y hy)
  | succ n ih =>
    have hpe := hn y.parent ((up_iff hm.srt).2 ⟨y, hy, rfl, rfl⟩)
    have hnm := (hm.nd y hy).2.2.1
    have hcut := name_no_cut hnm
    rcases hm.dirs y hy with g | ⟨z, hz, e, _⟩
    · have hq : rPath l y.id = some y.name := by rw [hm.path_up hy, g, path_root]; exact congrArg some (jn_nil _)
      refine ⟨p, y.name, hp, hq, ?_⟩
      rw [within_step hm hy hxi, g, root_within hm (by have := hm.pos hx; omega)]
      constructor
      · rintro (h | h)
        · rw [h] at hq
          rw [hp] at hq
          injection hq with hq
          exact .inl hq.symm
        · cases h
      · rintro (h | ⟨r, h⟩)
        · exact .inl (path_inj hm hy hx (by rw [hq, h]) (by rw [hp]))
        · exact absurd rfl (hcut 47 (by rw [h]; simp))
    · obtain ⟨p', s, h1, h2, h3⟩ := ih hz (e ▸ hpe)
      rw [hp] at h1
      injection h1 with h1
      subst h1
      obtain ⟨s2, h4, hs0⟩ := hm.path_some hz
      rw [h2] at h4
      injection h4 with h4
      subst h4
      have hq : rPath l y.id = some (s ++ 47 :: y.name) := by
        rw [hm.path_up hy, ← e, h2]
        show some (jn s y.name) = _
        unfold jn
        rw [if_neg hs0]
      refine ⟨p, s ++ 47 :: y.name, hp, hq, ?_⟩
      rw [within_step hm hy hxi, ← e, h3]
      constructor
      · rintro (h | h | ⟨r, h⟩)
        · rw [h, hp] at hq
          injection hq with hq
          exact .inl hq.symm
        · exact .inr ⟨y.name, by rw [h]⟩
        · exact .inr ⟨r ++ 47 :: y.name, by rw [h, List.append_assoc]; rfl⟩
      · rintro (h | ⟨r, h⟩)
        · exact .inl (path_inj hm hy hx (by rw [hq, h]) (by rw [hp]))
        · exact .inr (cut_last hcut h)
end Go.Proofs.YtkckgchohnkkpaaGreatDoor

/- Six directories that are moved about. No condition. -/
namespace Go.Proofs.YtkckgchohnkkpaaGreatDoor

/-- n directories with one letter each. -/
def Dirs (n : Nat) (T : List NodeV) : Prop := T.length = n ∧ ∀ (i : Nat) (h : i < T.length), ∃ p, T[i] = ⟨(i : Int) + 1, p, [97 + i], true, []⟩
theorem dirs_find {n : Nat} {T : List NodeV} (h : Dirs n T) {i : Nat} (hi : i < n) : rFind T ((i : Int) + 1) = some i := by
  have hi' : i < T.length := by rw [h.1]; exact hi
  obtain ⟨p, e⟩ := h.2 i hi'
  refine rFind_yes hi' (by rw [e]) fun j hj hji => ?_
  obtain ⟨p2, e2⟩ := h.2 j hj
  rw [e2]
  show (j : Int) + 1 ≠ i + 1
  omega
theorem dirs_name {n : Nat} {T : List NodeV} (h : Dirs n T) {y : NodeV} (hy : y ∈ T) : ∃ i, i < n ∧ y.id = (i : Int) + 1 ∧ y.name = [97 + i] := by
  obtain ⟨i, hi, rfl⟩ := List.getElem_of_mem hy
  obtain ⟨p, e⟩ := h.2 i hi
  exact ⟨i, by rw [← h.1]; exact hi, by rw [e], by rw [e]⟩
theorem letter_name {i : Nat} (h : i < 26) : IsName [97 + i] := by
  rw [isName_iff]
  refine ⟨by simp, by simp, by simp; omega, by simp, fun x hx => ?_⟩
  rw [List.mem_singleton.1 hx, okByte_iff]
  exact .inl ⟨by omega, by omega⟩
/-- One more. -/
theorem dirs_more {n : Nat} {T : List NodeV} (h : Dirs n T) (hn : n < 26) :
    rDo T ⟨1, (n : Int) + 1, 0, [97 + n], true, none, 0, []⟩ = (T ++ [⟨(n : Int) + 1, 0, [97 + n], true, []⟩], 0) ∧ Dirs (n + 1) (T ++ [⟨(n : Int) + 1, 0, [97 + n], true, []⟩]) := by
  refine ⟨do_last rfl ⟨⟨by show (1 : Int) ≤ (n : Int) + 1; omega, by show (n : Int) + 1 ≤ _; omega⟩, letter_name hn⟩ (fun y hy => ?_) (place_free fun y hy g => ?_) (by rw [h.1]; omega), ?_, fun i hi => ?_⟩
  · obtain ⟨i, hi, e, _⟩ := dirs_name h hy
    rw [e]
    show (i : Int) + 1 < (n : Int) + 1
    omega
  · obtain ⟨i, hi, _, e⟩ := dirs_name h hy
    have : [97 + i] = [97 + n] := e ▸ g.2
    simp at this
    omega
  · simp [h.1]
  · by_cases hin : i < T.length
    · obtain ⟨p, e⟩ := h.2 i hin
      exact ⟨p, by rw [List.getElem_append_left hin]; exact e⟩
    · have hi2 : i = T.length := by simp at hi; omega
      subst hi2
      refine ⟨0, ?_⟩
      rw [List.getElem_append_right (Nat.le_refl _)]
      simp [h.1]
/-- What a move does. -/
theorem dirs_move {n : Nat} {T : List NodeV} (h : Dirs n T) (hn : n ≤ 26) {i : Nat} (hi : i < n) {tg : Nat} (ht : tg ≤ n) :
    (tg ≠ 0 ∧ rWithin T (tg : Int) ((i : Int) + 1) = true → rDo T ⟨3, (i : Int) + 1, (tg : Int), [97 + i], false, none, 0, []⟩ = (T, 10)) ∧
    (¬ (tg ≠ 0 ∧ rWithin T (tg : Int) ((i : Int) + 1) = true) → ∃ T', rDo T ⟨3, (i : Int) + 1, (tg : Int), [97 + i], false, none, 0, []⟩ = (T', 0) ∧ Dirs n T') := by
  have hi' : i < T.length := by rw [h.1]; exact hi
  have hf := dirs_find h hi
  have hnm := letter_name (i := i) (by omega)
  have hup : rUp T (tg : Int) ((i : Int) + 1) = if tg ≠ 0 ∧ rWithin T (tg : Int) ((i : Int) + 1) = true then 10 else 0 := by
    by_cases h0 : tg = 0
    · subst h0
      rw [if_neg (fun g => g.1 rfl)]
      exact rUp_root T _
    · obtain ⟨k, rfl⟩ : ∃ k, tg = k + 1 := ⟨tg - 1, by omega⟩
      have hk : k < T.length := by rw [h.1]; omega
      obtain ⟨p, e⟩ := h.2 k hk
      have hfk := dirs_find h (i := k) (by omega)
      rw [show ((k + 1 : Nat) : Int) = (k : Int) + 1 from by omega]
      rw [rUp_some _ hk (by omega) hfk, e]
      rw [if_neg (by simp)]
      by_cases hw : rWithin T ((k : Int) + 1) ((i : Int) + 1) = true
      · rw [if_pos ⟨by omega, hw⟩, if_pos ⟨by omega, hw⟩]
      · rw [if_neg (fun g => hw g.2), if_neg (fun g => hw g.2)]
  constructor
  · intro hc
    rw [if_pos hc] at hup
    have hp : rPlace T (tg : Int) [97 + i] ((i : Int) + 1) = 10 := rPlace_up hup (by decide)
    rw [rDo_m3 rfl hnm hf (by show rPlace T (tg : Int) [97 + i] ((i : Int) + 1) ≠ 0; rw [hp]; decide)]
    show (_, rPlace T (tg : Int) [97 + i] ((i : Int) + 1)) = _
    rw [hp]
  · intro hc
    rw [if_neg hc] at hup
    have hp : rPlace T (tg : Int) [97 + i] ((i : Int) + 1) = 0 := by
      refine rPlace_ok hup ?_
      by_cases hch : ∃ y ∈ T, y.parent = (tg : Int) ∧ y.name = [97 + i]
      · obtain ⟨y, hy, _, e2, e3⟩ := child_some hch
        obtain ⟨j, hj, e4, e5⟩ := dirs_name h hy
        rw [e2] at e5
        simp at e5
        right
        rw [e3, e4, e5]
      · left
        rw [rChild_none fun y hy g => hch ⟨y, hy, g⟩]
        omega
    obtain ⟨p, e⟩ := h.2 i hi'
    refine ⟨_, rDo_m4 rfl hnm hi' hf hp, by simp [h.1], fun j hj => ?_⟩
    rw [List.getElem_set]
    by_cases hij : i = j
    · rw [if_pos hij]
      subst hij
      exact ⟨(tg : Int), by rw [e]⟩
    · rw [if_neg hij]
      exact h.2 j (by simpa using hj)
theorem dirs_nil : Dirs 0 [] := ⟨rfl, fun i h => by simp at h⟩
end Go.Proofs.YtkckgchohnkkpaaGreatDoor

/- What a move among six directories does, told by the two paths. No condition. -/
namespace Go.Proofs.YtkckgchohnkkpaaGreatDoor

theorem dirs_at {n : Nat} {T : List NodeV} (h : Dirs n T) {i : Nat} (hi : i < n) : ∃ x, x ∈ T ∧ x.id = (i : Int) + 1 := by
  have hi' : i < T.length := by rw [h.1]; exact hi
  obtain ⟨p, e⟩ := h.2 i hi'
  exact ⟨T[i], List.getElem_mem hi', by rw [e]⟩
/-- The two paths, what the call answers, and which of both it is. -/
theorem cyc_move {n : Nat} {T : List NodeV} (hm : TreeM T) (hd : Dirs n T) (hn : n ≤ 26) {i tg : Nat} (hi : i < n) (ht : tg ≤ n) :
    ∃ p q X u, rPath T ((i : Int) + 1) = some p ∧ rPath T (tg : Int) = some q ∧ (∀ c ∈ p, c < 256) ∧ (∀ c ∈ q, c < 256) ∧ rDo T ⟨3, (i : Int) + 1, (tg : Int), [97 + i], false, none, 0, []⟩ = (X, u) ∧ TreeM X ∧ Dirs n X ∧ (u = 10 ∧ tg ≠ 0 ∧ Under p q ∨ u = 0 ∧ ¬ Under p q) := by
  obtain ⟨x, hx, ex⟩ := dirs_at hd hi
  obtain ⟨p, hp, hp0, hpb, _⟩ := seek_path hm hx
  obtain ⟨m1, m2⟩ := dirs_move hd hn hi ht
  have hdo := hm.does ⟨3, (i : Int) + 1, (tg : Int), [97 + i], false, none, 0, []⟩
  by_cases h0 : tg = 0
  · subst h0
    obtain ⟨X, e, hX⟩ := m2 (fun g => g.1 rfl)
    rw [e] at hdo
    refine ⟨p, [], X, 0, by rw [← ex]; exact hp, path_root T, hpb, fun c hc => by simp at hc, e, hdo, hX, .inr ⟨rfl, ?_⟩⟩
    rintro (g | ⟨r, g⟩)
    · exact hp0 g.symm
    · simp at g
  · obtain ⟨y, hy, ey⟩ := dirs_at hd (show tg - 1 < n by omega)
    have ey2 : y.id = (tg : Int) := by rw [ey]; omega
    obtain ⟨q, hq, _, hqb, _⟩ := seek_path hm hy
    obtain ⟨p2, q2, a1, a2, hu⟩ := within_under hm hx hy
    rw [hp] at a1
    rw [hq] at a2
    obtain rfl := Option.some.inj a1
    obtain rfl := Option.some.inj a2
    rw [ey2, ex] at hu
    by_cases hw : rWithin T (tg : Int) ((i : Int) + 1) = true
    · have e := m1 ⟨h0, hw⟩
      exact ⟨p, q, T, 10, by rw [← ex]; exact hp, by rw [← ey2]; exact hq, hpb, hqb, e, hm, hd, .inl ⟨rfl, h0, hu.1 hw⟩⟩
    · obtain ⟨X, e, hX⟩ := m2 (fun g => hw g.2)
      rw [e] at hdo
      exact ⟨p, q, X, 0, by rw [← ex]; exact hp, by rw [← ey2]; exact hq, hpb, hqb, e, hdo, hX, .inr ⟨rfl, fun g => hw (hu.2 g)⟩⟩
/-- How a text may lie beside another one. -/
theorem under_ways (p q : List Nat) : q = p ∨ (∃ r, q = p ++ 47 :: r) ∨ (¬ Under p q ∧ (q.length < p.length ∨ (p.length ≤ q.length ∧ q.take p.length ≠ p) ∨ ∃ c r, c ≠ 47 ∧ q = p ++ c :: r)) := by
  by_cases hl : q.length < p.length
  · refine .inr (.inr ⟨?_, .inl hl⟩)
    rintro (rfl | ⟨r, rfl⟩)
    · omega
    · rw [List.length_append] at hl; omega
  · by_cases ht : q.take p.length = p
    · have e : q = p ++ q.drop p.length := by have := List.take_append_drop p.length q; rw [ht] at this; exact this.symm
      cases hr : q.drop p.length with
      | nil => rw [hr, List.append_nil] at e; exact .inl e
      | cons c r =>
        rw [hr] at e
        by_cases hc : c = 47
        · exact .inr (.inl ⟨r, by rw [← hc]; exact e⟩)
        · refine .inr (.inr ⟨?_, .inr (.inr ⟨c, r, hc, e⟩)⟩)
          rintro (g | ⟨r2, g⟩)
          · rw [g] at e
            have := congrArg List.length e
            rw [List.length_append, List.length_cons] at this
            omega
          · rw [g] at e
            have := List.append_cancel_left e
            exact hc (by injection this with a b; exact a.symm)
    · refine .inr (.inr ⟨?_, .inr (.inl ⟨by omega, ht⟩)⟩)
      rintro (rfl | ⟨r, rfl⟩)
      · exact ht (by simp)
      · exact ht (by simp)
end Go.Proofs.YtkckgchohnkkpaaGreatDoor
