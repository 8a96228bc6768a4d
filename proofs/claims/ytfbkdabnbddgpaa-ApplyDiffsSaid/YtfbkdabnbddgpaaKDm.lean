/- A Diff keeps what both texts begin and end with: as functions. No condition. -/
import Derived.Test.YtfbkdabnbddgpaaKAwk
import Derived.Test.YtfbkdabnbddgpaaKDiff
import Derived.Test.YtfbkdabnbddgpaaKRef
/- A Diff keeps what both texts begin and end with: as functions. No condition. -/
namespace Go.Proofs.Ytfbkdabnbddgpaa
open Go.RowKit Go.Deep

theorem E_end {ws tt a : List Nat} (hw : ∀ v ∈ ws, May v) (ht : ∀ v ∈ tt, May v) (h : E ws = a ++ E tt) : ∃ aa, ws = aa ++ tt ∧ E aa = a := by
  have hb : Bd ws a.length := by
    cases tt with
    | nil =>
      rw [E_nil, List.append_nil] at h
      rw [← h]
      exact Bd.all ws
    | cons v r =>
      obtain ⟨c0, t, he, hc0, _⟩ := enc_form (ht v (by simp))
      refine (bd_start ws _ c0 hw ?_).1 hc0
      rw [h, List.getElem?_append_right (Nat.le_refl _), Nat.sub_self, E_cons, he]
      rfl
  obtain ⟨k, hk, hn⟩ := hb
  have h1 : E (ws.take k) = a := by
    have := congrArg (fun l => l.take a.length) h
    simp only [List.take_left'] at this
    rw [← this, ← hn]
    conv => rhs; rw [E_split ws k]
    exact (List.take_left' rfl).symm
  have h2 : E (ws.drop k) = E tt := by
    rw [← E_drop, hn, h]
    exact List.drop_left' rfl
  have h3 : ws.drop k = tt := E_inj (fun v hv => hw v (List.mem_of_mem_drop hv)) ht h2
  exact ⟨ws.take k, by rw [← h3, List.take_append_drop], h1⟩
/-- A text that begins and ends with texts. -/
theorem V_mid {h a t x hh tt : List Nat} (hx : V (h ++ a ++ t) x) (hv : V h hh) (tv : V t tt) : ∃ aa, x = hh ++ aa ++ tt := by
  obtain ⟨ws, rfl, hws⟩ := E_part hh x (a ++ t) hv.may hx.may (by rw [hx.bytes, hv.bytes, List.append_assoc])
  obtain ⟨aa, rfl, _⟩ := E_end (fun v hv => hx.may v (by simp [hv])) tv.may (by rw [hws, tv.bytes] : E ws = a ++ E tt)
  exact ⟨aa, by simp⟩
theorem kept_take {l : List CompV} (hw : ∀ c ∈ l, Wh c) : ∀ k, 0 ≤ keptS (l.take k) ∧ keptS (l.take k) ≤ (inS (l.take k) : Int)
  | 0 => by rw [List.take_zero]; rw [inS_nil]; exact ⟨by decide, by decide⟩
  | k + 1 => by
    by_cases hk : k < l.length
    · obtain ⟨h1, h2⟩ := kept_take hw k
      have hc := (hw _ (List.getElem_mem hk)).n
      rw [List.take_succ_eq_append_getElem hk, keptS_snoc, inS_append, inS_cons, inS_nil]
      split <;> omega
    · rw [List.take_of_length_le (by omega)]
      have := kept_take hw k
      rwa [List.take_of_length_le (by omega)] at this
/-- What is so of a Diff of two texts that are not long. -/
theorem diff_all {s t x y : List Nat} (hx : V s x) (hy : V t y) (h1 : x.length ≤ 2000) (h2 : y.length ≤ 2000) :
    Ok (fOut s t) ∧ (fOut s t).length ≤ 4 ∧ inS (fOut s t) = x.length ∧ keptS (fOut s t) = (preN x y : Int) + (sufN x y : Int) := by
  obtain ⟨p1, p2, p3, p4⟩ := pre_suf (preN_pre x y) (sufN_suf x y)
  have hd := of_does (base := x.length) (fr := preN x y) (te := x.length - sufN x y) p1 p2 (by omega) (midT x y) x rfl
  have hs := (sufN_suf x y).1
  have hsy := (sufN_suf x y).2.1
  have hpy := (preN_pre x y).2.1
  rw [fOut_yes hx hy]
  refine ⟨of_ok p1 p2 h1 ⟨_, midT_V hy.may⟩ ?_, hd.2.2.2, hd.2.1, ?_⟩
  · rw [cps_of (midT_V hy.may), List.length_drop, List.length_take]
    omega
  · rw [hd.2.2.1]
    omega
theorem diff_idle {s x : List Nat} (hx : V s x) (h1 : x.length ≤ 2000) : idleB (fOut s s) = true := by
  obtain ⟨e1, e2⟩ := pre_same (preN_pre x x) (sufN_suf x x)
  have hm : midT x x = [] := by rw [midT, e1, e2, Nat.sub_zero, List.take_length, List.drop_length, E_nil]
  rw [fOut_yes hx hx, e1, e2, hm, Nat.sub_zero, of_form (Nat.le_refl _) (Nat.le_refl _) (by omega), Nat.sub_self]
  by_cases h0 : x.length = 0
  · simp [h0, keepOf, idleB]
  · simp [keepOf, idleB]
end Go.Proofs.Ytfbkdabnbddgpaa
