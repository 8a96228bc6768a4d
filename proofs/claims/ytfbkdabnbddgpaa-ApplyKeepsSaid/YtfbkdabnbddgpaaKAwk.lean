/- What was done is undone, and what differs is put in place: Do, Undo and Diff, as functions. No condition. (Merged of 4 texts.) -/
import Derived.Test.YtfbkdabnbddgpaaKOp
import Derived.Test.YtfbkdabnbddgpaaKRef
import Derived.Test.YtfbkdabnbddgpaaAlikeComps
import Derived.Test.YtfbkdabnbddgpaaLit
import Derived.Test.YtfbkdabnbddgpaaKDiff
import Derived.Test.YtfbkdabnbddgpaaKAp
import Derived.Test.YtfbkdabnbddgpaaKEdit
/- What the statements' own awakes lean on: guards, rows just laid, small edits. No condition. -/
namespace Go.Proofs.Ytfbkdabnbddgpaa
open Go.RowKit Go.Deep

/-- What the guards of the statements say of an edit. -/
theorem weight_spec (lim : Nat) (hlim : lim < 1099511627776) (l : List CompV) (h : compsWeight lim l ≤ lim) : 2 * l.length + tlen l ≤ lim := by
  have e := wts_spec lim hlim (l.map compTerms) 0 h
  have e2 : ∀ l : List CompV, ((l.map compTerms).map List.sum).sum = 2 * l.length + tlen l := by
    intro l
    induction l with
    | nil => rfl
    | cons c l ih =>
      have h1 : tlen (c :: l) = c.text.length + tlen l := by simp [tlen]
      rw [List.map_cons, List.map_cons, List.sum_cons, ih, h1, List.length_cons]
      simp only [compTerms, List.sum_cons, List.sum_nil]
      omega
  rw [e2] at e
  have : compsWeight lim l = 0 + (2 * l.length + tlen l) := e
  omega
theorem tlen_mem {l : List CompV} {y : CompV} (h : y ∈ l) : y.text.length ≤ tlen l := by
  obtain ⟨i, hi, rfl⟩ := List.getElem_of_mem h
  have := tlen_get hi
  omega
theorem fine_of {l : List CompV} (hg : ∀ y ∈ l, y.Good) (ht : tlen l ≤ 1099511627776) : Fine1 l := fun y hy => ⟨hg y hy, Nat.le_trans (tlen_mem hy) ht⟩

theorem good_of (k n : Int) (t : List Nat) (hk : 0 ≤ k ∧ k ≤ 9) (hn : 0 ≤ n ∧ n ≤ 1099511627776) (ht : (∀ x ∈ t, x < 256) ∧ t.length ≤ 1099511627776) : (CompV.mk k n t).Good :=
  ⟨by unfold Fit64; show _ ≤ k ∧ k ≤ _; omega, by unfold Fit64; show _ ≤ n ∧ n ≤ _; omega, ht.1, by have := ht.2; unfold maxLen; show t.length ≤ _; omega⟩
theorem V_one (x : Nat) (h : 0 < x ∧ x < 128) : V [x] [x] := by
  refine ⟨?_, ?_⟩
  · intro v hv; simp at hv; subst hv; unfold May; omega
  · rw [E_cons, E_nil]
    have e : enc x = [x] := by
      unfold enc
      rw [if_pos h.2]
    rw [e]; rfl
theorem nrm_nil : Nrm [] := fun i c h => by simp at h
/-- The parts of a normal edit, one by one. -/
theorem nrm_cons {c : CompV} {l : List CompV} (hc : Whole c) (hl : Nrm l) (hd : ∀ d, l[0]? = some d → d.kind ≠ c.kind ∧ ¬ (c.kind = 3 ∧ d.kind = 2)) : Nrm (c :: l) := by
  intro i d h
  cases i with
  | zero =>
    simp at h
    subst h
    refine ⟨?_, fun p h0 => by omega⟩
    rcases hc with h | ⟨h1, h2, h3, h4⟩
    · exact .inl h
    · exact .inr ⟨h1, h2, h3, h4, fun p h0 => by omega⟩
  | succ i =>
    have h' : l[i]? = some d := by simpa using h
    have hn := hl i d h'
    have hpre : ∀ p, (c :: l)[i + 1 - 1]? = some p → (i = 0 ∧ p = c) ∨ (0 < i ∧ l[i - 1]? = some p) := fun p hp => by
      rw [Nat.add_sub_cancel] at hp
      cases i with
      | zero => simp at hp; exact .inl ⟨rfl, hp.symm⟩
      | succ j => exact .inr ⟨by omega, by simpa using hp⟩
    refine ⟨?_, fun p _ hp => ?_⟩
    · rcases hn.1 with h1 | ⟨h1, h2, h3, h4, h5⟩
      · exact .inl h1
      · refine .inr ⟨h1, h2, h3, h4, fun p _ hp => ?_⟩
        rcases hpre p hp with ⟨rfl, rfl⟩ | ⟨h0, hp'⟩
        · exact fun e => (hd d h').2 ⟨e, h1⟩
        · exact h5 p h0 hp'
    · rcases hpre p hp with ⟨rfl, rfl⟩ | ⟨h0, hp'⟩
      · exact fun e => (hd d h').1 e.symm
      · exact hn.2 p h0 hp'
/-- A row of one part. -/
theorem row_one (w : World) (g : Nat) (hg : g = w.heap.size) (k n : Int) (t : List Nat) : CompsAt (w.alloc (.cells #[.int .i64 k, .int .i64 n, .string (bstr t)] 45)) (some ⟨g, 0, none⟩) [⟨k, n, t⟩] :=
  CellsAt.lit (fun j v hj => by
    match j, hj with
    | 0, hj => cases hj; rfl
    | 1, hj => cases hj; rfl
    | 2, hj => cases hj; rfl) hg
theorem row_two (w : World) (g : Nat) (hg : g = w.heap.size) (k n : Int) (t : List Nat) (k' n' : Int) (t' : List Nat) :
    CompsAt (w.alloc (.cells #[.int .i64 k, .int .i64 n, .string (bstr t), .int .i64 k', .int .i64 n', .string (bstr t')] 45)) (some ⟨g, 0, none⟩) [⟨k, n, t⟩, ⟨k', n', t'⟩] :=
  CellsAt.lit (fun j v hj => by
    match j, hj with
    | 0, hj => cases hj; rfl
    | 1, hj => cases hj; rfl
    | 2, hj => cases hj; rfl
    | 3, hj => cases hj; rfl
    | 4, hj => cases hj; rfl
    | 5, hj => cases hj; rfl) hg

theorem hld_small {a b : Int} (h1 : 0 ≤ a) (h2 : 0 ≤ b) (h3 : a + b ≤ 1099511627776) : hld a b = a + b := by unfold hld; omega
theorem hld01 : hld 0 1 = 1 := hld_small (by omega) (by omega) (by omega)
theorem hld11 : hld 1 1 = 2 := hld_small (by omega) (by omega) (by omega)
theorem hld21 : hld 2 1 = 3 := hld_small (by omega) (by omega) (by omega)
theorem aw_norm : rNormal [⟨3, 1, []⟩, ⟨2, 0, [97]⟩] = [⟨2, 0, [97]⟩, ⟨3, 1, []⟩] := by simp [rNormal, nRun, nStep, nStart, NS.flush, keepOf, textOf, goneOf, hld01]
theorem aw_of : rNormal (ofParts 3 1 2 [120]) = [⟨1, 1, []⟩, ⟨2, 0, [120]⟩, ⟨3, 1, []⟩, ⟨1, 1, []⟩] := by simp [rNormal, ofParts, nRun, nStep, nStart, NS.flush, keepOf, textOf, goneOf, hld01]
theorem aw_one : loose [97] = 1 := (V_one 97 (by omega)).loose
theorem aw_one' : loose [120] = 1 := (V_one 120 (by omega)).loose
theorem aw_base : rBase [⟨1, 1, []⟩, ⟨2, 0, [120]⟩, ⟨3, 1, []⟩, ⟨1, 1, []⟩] = 3 := by simp [rBase, baseStep, hld01, hld11, hld21]
theorem aw_out : rOut [⟨1, 1, []⟩, ⟨2, 0, [120]⟩, ⟨3, 1, []⟩, ⟨1, 1, []⟩] = 3 := by simp [rOut, outStep, hld01, hld11, hld21, aw_one']
theorem aw_check : rCheck [⟨2, 0, [97]⟩, ⟨3, 1, []⟩] = 0 := by
  have h1 : Nrm [⟨2, 0, [97]⟩, ⟨3, 1, []⟩] := nrm_cons (.inr ⟨rfl, rfl, by simp, _, V_one 97 (by omega)⟩) (nrm_cons (.inl ⟨.inr rfl, by show (1 : Int) ≤ 1; omega, rfl⟩) nrm_nil (fun d h => by simp at h)) (fun d h => by simp at h; subst h; simp)
  have h2 : rBase [⟨2, 0, [97]⟩, ⟨3, 1, []⟩] = 1 := by simp [rBase, baseStep, hld01]
  have h3 : rOut [⟨2, 0, [97]⟩, ⟨3, 1, []⟩] = 1 := by simp [rOut, outStep, hld01, aw_one]
  rw [rCheck, nrmB_yes h1, h2, h3]
  simp
theorem aw_bad : rCheck [⟨9, 0, []⟩] = 1 := by
  have h1 : ¬ Nrm [⟨9, 0, []⟩] := fun h => by
    rcases (h 0 _ rfl).1 with ⟨h, _⟩ | ⟨h, _⟩
    · rcases h with h | h <;> simp at h
    · simp at h
  rw [rCheck, nrmB_no h1]
  simp
end Go.Proofs.Ytfbkdabnbddgpaa

/- The contract of the statements' own awake: it answers true; what was there stays as it was. No condition. -/
namespace Go.Proofs.Ytfbkdabnbddgpaa
open Go.RowKit Go.Deep

theorem E_low : ∀ (l : List Nat), (∀ x ∈ l, x < 128) → E l = l
  | [], _ => E_nil
  | c :: l, h => by
    rw [E_cons, E_low l fun x hx => h x (by simp [hx]), enc_def, if_pos (h c (by simp))]
    rfl
theorem V_low {l : List Nat} (h : ∀ x ∈ l, 0 < x ∧ x < 128) : V l l :=
  ⟨fun v hv => by have := h v hv; unfold May; omega, E_low l fun x hx => (h x hx).2⟩
theorem V_abc : V [97, 98, 99] [97, 98, 99] := V_low (by simp)
theorem V_axc : V [97, 120, 99] [97, 120, 99] := V_low (by simp)
theorem V_ab : V [97, 98] [97, 98] := V_low (by simp)
theorem row_three (w : World) (g : Nat) (hg : g = w.heap.size) (k n : Int) (t : List Nat) (k' n' : Int) (t' : List Nat) (k2 n2 : Int) (t2 : List Nat) :
    CompsAt (w.alloc (.cells #[.int .i64 k, .int .i64 n, .string (bstr t), .int .i64 k', .int .i64 n', .string (bstr t'), .int .i64 k2, .int .i64 n2, .string (bstr t2)] 45)) (some ⟨g, 0, none⟩) [⟨k, n, t⟩, ⟨k', n', t'⟩, ⟨k2, n2, t2⟩] :=
  CellsAt.lit (fun j v hj => by
    match j, hj with
    | 0, hj => cases hj; rfl
    | 1, hj => cases hj; rfl
    | 2, hj => cases hj; rfl
    | 3, hj => cases hj; rfl
    | 4, hj => cases hj; rfl
    | 5, hj => cases hj; rfl
    | 6, hj => cases hj; rfl
    | 7, hj => cases hj; rfl
    | 8, hj => cases hj; rfl) hg
theorem aw8_check3 : rCheck [⟨1, 1, []⟩, ⟨3, 1, []⟩, ⟨1, 1, []⟩] = 0 := by
  have h1 : Nrm [⟨1, 1, []⟩, ⟨3, 1, []⟩, ⟨1, 1, []⟩] :=
    nrm_cons (.inl ⟨.inl rfl, by show (1 : Int) ≤ 1; omega, rfl⟩) (nrm_cons (.inl ⟨.inr rfl, by show (1 : Int) ≤ 1; omega, rfl⟩) (nrm_cons (.inl ⟨.inl rfl, by show (1 : Int) ≤ 1; omega, rfl⟩) nrm_nil (fun d h => by simp at h)) (fun d h => by simp at h; subst h; simp)) (fun d h => by simp at h; subst h; simp)
  have h2 : rBase [⟨1, 1, []⟩, ⟨3, 1, []⟩, ⟨1, 1, []⟩] = 3 := by simp [rBase, baseStep, hld01, hld11, hld21]
  have h3 : rOut [⟨1, 1, []⟩, ⟨3, 1, []⟩, ⟨1, 1, []⟩] = 2 := by simp [rOut, outStep, hld01, hld11]
  rw [rCheck, nrmB_yes h1, h2, h3]
  simp
theorem aw8_base3 : rBase [⟨1, 1, []⟩, ⟨3, 1, []⟩, ⟨1, 1, []⟩] = 3 := by simp [rBase, baseStep, hld01, hld11, hld21]
theorem aw8_check1 : rCheck [⟨1, 1, []⟩] = 0 := by
  have h1 : Nrm [⟨1, 1, []⟩] := nrm_cons (.inl ⟨.inl rfl, by show (1 : Int) ≤ 1; omega, rfl⟩) nrm_nil (fun d h => by simp at h)
  have h2 : rBase [⟨1, 1, []⟩] = 1 := by simp [rBase, baseStep, hld01]
  have h3 : rOut [⟨1, 1, []⟩] = 1 := by simp [rOut, outStep, hld01]
  rw [rCheck, nrmB_yes h1, h2, h3]
  simp
theorem aw8_err3 : dErr [97, 98, 99] [⟨1, 1, []⟩, ⟨3, 1, []⟩, ⟨1, 1, []⟩] = 0 := dErr_ok aw8_check3 V_abc (by rw [aw8_base3]; rfl)
theorem aw8_txt3 : dTxt [97, 98, 99] [⟨1, 1, []⟩, ⟨3, 1, []⟩, ⟨1, 1, []⟩] = [97, 99] := by
  rw [dTxt, if_pos aw8_err3, cps_of V_abc]
  have e1 : E [97] = [97] := E_low _ (by simp)
  have e2 : E [99] = [99] := E_low _ (by simp)
  simp [doRun, doStep, e1, e2]
theorem aw8_err1 : dErr [97, 98] [⟨1, 1, []⟩] = 11 := dErr_text aw8_check1 V_ab (by simp [rBase, baseStep, hld01])
theorem aw8_diff : fErr [97, 98, 99] [97, 120, 99] = 0 ∧ (fOut [97, 98, 99] [97, 120, 99]).length = 4 := by
  refine ⟨fErr_yes V_abc V_axc, ?_⟩
  have hp : preN [97, 98, 99] [97, 120, 99] = 1 := (preN_pre _ _).uniq ⟨by simp, by simp, fun i hi => by rw [show i = 0 by omega]; rfl, by simp⟩
  have hs : sufN [97, 98, 99] [97, 120, 99] = 1 := (sufN_suf _ _).uniq (by rw [hp]; exact ⟨by simp, by simp, fun i hi => by rw [show i = 0 by omega]; rfl, by simp⟩)
  have e1 : E [120] = [120] := E_low _ (by simp)
  have hm : midT [97, 98, 99] [97, 120, 99] = [120] := by rw [midT, hp, hs]; exact e1
  rw [fOut_yes V_abc V_axc, hp, hs, hm]
  rw [show (([97, 98, 99] : List Nat).length : Int) = 3 by rfl, show ((([97, 98, 99] : List Nat).length - 1 : Nat) : Int) = 2 by rfl, show ((1 : Nat) : Int) = 1 by rfl, aw_of]
  rfl

set_option maxHeartbeats 2000000 in
set_option maxRecDepth 100000 in
theorem apAwake_any (w : World) : Calls Try.prog 8 #[] w fun e w' => e = .returned (.bool true) ∧ Below w.heap.size w w' := by
  have G1 : Hid (∀ (w : World) (g : Nat), g = w.heap.size → Calls Try.prog 9 #[.string { data := #[97, 98, 99] }, .slice (some ⟨g, 0, none⟩) 3 3] (w.alloc (.cells #[.int .i64 1, .int .i64 1, .string { data := #[] }, .int .i64 3, .int .i64 1, .string { data := #[] }, .int .i64 1, .int .i64 1, .string { data := #[] }] 45)) fun e w' =>
      e = .returned (.tuple #[.string { data := #[97, 99] }, .int .i64 0]) ∧ Below w.heap.size w w') := by
    intro w g hg
    refine (apDo_any [97, 98, 99] (some ⟨g, 0, none⟩) 3 [⟨1, 1, []⟩, ⟨3, 1, []⟩, ⟨1, 1, []⟩] (by simp) (by simp) (by simp [maxLen]) (fine_of (fun y hy => ?_) (by simp [tlen])) (by simp [tlen]) _ (row_three w g hg 1 1 [] 3 1 [] 1 1 [])).mono ?_
    · simp at hy
      rcases hy with rfl | rfl | rfl <;> exact good_of _ _ _ (by omega) (by omega) (by simp)
    · rintro e w' ⟨hd, hb⟩
      rw [hd.eq, aw8_txt3, aw8_err3]
      exact ⟨rfl, ((Below.refl _ w).alloc (Nat.le_refl _) _).trans (hb.mono (by simp))⟩
  have G2 : Hid (∀ (w : World) (g : Nat), g = w.heap.size → Calls Try.prog 9 #[.string { data := #[97, 98] }, .slice (some ⟨g, 0, none⟩) 1 1] (w.alloc (.cells #[.int .i64 1, .int .i64 1, .string { data := #[] }] 45)) fun e w' =>
      (∃ s, e = .returned (.tuple #[.string s, .int .i64 11])) ∧ Below w.heap.size w w') := by
    intro w g hg
    refine (apDo_any [97, 98] (some ⟨g, 0, none⟩) 1 [⟨1, 1, []⟩] (by simp) (by simp) (by simp [maxLen]) (fine_of (fun y hy => ?_) (by simp [tlen])) (by simp [tlen]) _ (row_one w g hg 1 1 [])).mono ?_
    · simp at hy
      subst hy
      exact good_of _ _ _ (by omega) (by omega) (by simp)
    · rintro e w' ⟨hd, hb⟩
      rw [hd.eq, aw8_err1]
      exact ⟨⟨_, rfl⟩, ((Below.refl _ w).alloc (Nat.le_refl _) _).trans (hb.mono (by simp))⟩
  have G3 : Hid (∀ (w : World), Calls Try.prog 13 #[.string { data := #[97, 98, 99] }, .string { data := #[97, 120, 99] }] w fun e w' =>
      (∃ A c, e = .returned (.tuple #[.slice A 4 c, .int .i64 0])) ∧ Below w.heap.size w w') := by
    intro w
    refine (apDiff_any [97, 98, 99] [97, 120, 99] (by simp) (by simp) (by simp) (by simp) w).mono ?_
    rintro e w' ⟨hd, hb⟩
    obtain ⟨A, c, rfl, _⟩ := hd.fn
    rw [aw8_diff.1, aw8_diff.2]
    exact ⟨⟨A, c, rfl⟩, hb⟩
  go_enter Try.func8, Try.ntmps8
  go_wp2_with fail
  refine (G1.out _ _ rfl).mono ?_
  rintro e w1 ⟨rfl, hb1⟩
  have HB1 := Lib.hid hb1; clear hb1
  go_wp2_with fail
  refine (G2.out _ _ rfl).mono ?_
  rintro e w2 ⟨⟨s2, rfl⟩, hb2⟩
  have HB2 : Hid (Below w.heap.size w w2) := HB1.out.trans (hb2.mono HB1.out.size)
  clear hb2
  go_wp2_with fail
  refine (G3.out _).mono ?_
  rintro e w3 ⟨⟨A3, c3, rfl⟩, hb3⟩
  have HB3 : Hid (Below w.heap.size w w3) := HB2.out.trans (hb3.mono HB2.out.size)
  clear hb3
  go_wp2
  go_ret
  exact ⟨rfl, HB3.out⟩
end Go.Proofs.Ytfbkdabnbddgpaa

/- ApplyAsks, walked: of any text, and any parts, the outcome, what undoes it, and what makes one text of another one, are as the document says. Condition: what memory may hold. -/
namespace Go.Proofs.Ytfbkdabnbddgpaa
open Go.RowKit Go.Deep

theorem uOut_fit {t : List Nat} {l : List CompV} (hf : Fine1 l) (htl : t.length ≤ 1073741824) (htt : tlen l ≤ 1073741824) : (∀ y ∈ uOut t l, y.Good) ∧ (uOut t l).length ≤ 303 ∧ Fine1 (uOut t l) ∧ tlen (uOut t l) ≤ 109521666048 := by
  by_cases h : dErr t l = 0
  · obtain ⟨hz, vs, hv, _⟩ := dErr_zero h
    have hok := ok_of hz
    rw [uOut, if_pos h, cps_of hv]
    have hg := undoRun_good hok.wh hf hv.may (by rw [hv.bytes]; exact htl) l.length (Nat.le_refl _)
    rw [List.take_length] at hg
    have h1 := undoRun_text vs (by rw [hv.bytes]; exact htl) l
    have h3 : l.length * 1073741824 ≤ 100 * 1073741824 := Nat.mul_le_mul_right _ hok.len
    have hn := norm_len (undoRun vs l).2
    rw [undoRun_len] at hn
    have h4 := tlen_norm (undoRun vs l).2
    have h5 := norm_good _ hg (by omega)
    exact ⟨h5, by have := hok.len; omega, fine_of h5 (by omega), by omega⟩
  · rw [uOut, if_neg h]
    exact ⟨by simp, by simp, fun y hy => absurd hy (by simp), by simp [tlen]⟩
theorem fOut_fit {a b : List Nat} (hal : a.length ≤ 1073741824) (hbl : b.length ≤ 1073741824) : (∀ y ∈ fOut a b, y.Good) ∧ (fOut a b).length ≤ 15 ∧ Fine1 (fOut a b) ∧ tlen (fOut a b) ≤ 1073741824 := by
  by_cases h1 : ∃ x, V a x
  · by_cases h2 : ∃ y, V b y
    · obtain ⟨x, hx⟩ := h1
      obtain ⟨y, hy⟩ := h2
      rw [fOut_yes hx hy]
      have hp := (preN_pre x y).1
      have hs := (sufN_suf x y).1
      have hxl := hx.length_le
      have hm : (midT x y).length ≤ b.length := by
        have := piece_len y (preN x y) (y.length - sufN x y)
        rw [hy.bytes] at this
        exact this
      have ht : tlen (ofParts (x.length : Int) (preN x y : Int) ((x.length - sufN x y : Nat) : Int) (midT x y)) = (midT x y).length := by simp [tlen, ofParts]
      have hg : ∀ z ∈ ofParts (x.length : Int) (preN x y : Int) ((x.length - sufN x y : Nat) : Int) (midT x y), z.Good := by
        intro z hz
        simp only [ofParts, List.mem_cons, List.not_mem_nil, or_false] at hz
        rcases hz with rfl | rfl | rfl | rfl
        · exact good_of _ _ _ (by omega) (by omega) (by simp)
        · exact good_of _ _ _ (by omega) (by omega) ⟨E_lt (midT_V hy.may).may, by omega⟩
        · exact good_of _ _ _ (by omega) (by omega) (by simp)
        · exact good_of _ _ _ (by omega) (by omega) (by simp)
      have hn := norm_len (ofParts (x.length : Int) (preN x y : Int) ((x.length - sufN x y : Nat) : Int) (midT x y))
      have h4 := tlen_norm (ofParts (x.length : Int) (preN x y : Int) ((x.length - sufN x y : Nat) : Int) (midT x y))
      have h5 := norm_good _ hg (by omega)
      rw [show (ofParts (x.length : Int) (preN x y : Int) ((x.length - sufN x y : Nat) : Int) (midT x y)).length = 4 by rfl] at hn
      exact ⟨h5, by omega, fine_of h5 (by omega), by omega⟩
    · rw [fOut_no (.inr h2)]
      exact ⟨by simp, by simp, fun y hy => absurd hy (by simp), by simp [tlen]⟩
  · rw [fOut_no (.inl h1)]
    exact ⟨by simp, by simp, fun y hy => absurd hy (by simp), by simp [tlen]⟩

set_option maxHeartbeats 4000000 in
set_option maxRecDepth 100000 in
theorem applyAsks_any (s : List Nat) (A : Option Addr) (l : List CompV) (c : Nat) (t : List Nat) (hb : ∀ x ∈ s, x < 256) (hsl : s.length ≤ maxLen) (hl : l.length ≤ maxLen) (hg : ∀ y ∈ l, y.Good) (hbt : ∀ x ∈ t, x < 256) (htl : t.length ≤ maxLen) (w : World) (hA : CompsAt w A l) :
    Calls Try.prog 3 #[.string (bstr s), .slice A l.length c, .string (bstr t)] w fun e w' => e = .returned (.bool true) ∧ Below w.heap.size w w' := by
  have hsz := bstr_size s
  have htz := bstr_size t
  unfold maxLen at hsl htl
  have GA := Lib.hid (fun w => apAwake_any w)
  have GW := Lib.hid (fun w h => alikeComps_at 3000 c hl hg w (A := A) h)
  have HA := Lib.hid hA
  clear hA
  obtain ⟨T, HT⟩ : ∃ x, Hid (compsWeight 3000 l = x) := ⟨_, rfl⟩
  rw [HT.out] at GW
  have HW0 := Lib.hid (Below.refl w.heap.size w)
  by_cases h1 : s.length ≤ 1000
  · by_cases h2 : t.length ≤ 1000
    · by_cases h3 : T ≤ 3000
      · have hs1 := weight_spec 3000 (by omega) l (by rw [HT.out]; exact h3)
        have hfl : Fine1 l := fine_of hg (by omega)
        have GD := Lib.hid (fun w h => apDo_any s A c l hb (by omega) hl hfl (by omega) w h)
        have GDr := Lib.hid (fun w h => refDo_any s A c l hb (by omega) hl hfl (by omega) w h)
        have GU := Lib.hid (fun w h => apUndo_any s A c l hb (by omega) hl hfl (by omega) w h)
        have GUr := Lib.hid (fun w h => refUndo_any s A c l hb (by omega) hl hfl (by omega) w h)
        have GF := Lib.hid (fun w => apDiff_any s t hb hbt (by omega) (by omega) w)
        have GFr := Lib.hid (fun w => refDiff_any s t hb hbt (by omega) (by omega) w)
        obtain ⟨hu1, hu2, _, _⟩ := uOut_fit (t := s) hfl (by omega) (by omega)
        obtain ⟨hf1, hf2, _, _⟩ := fOut_fit (a := s) (b := t) (by omega) (by omega)
        have GSU := Lib.hid (fun A1 B1 c1 d1 w h1 h2 => refSame_any A1 B1 c1 d1 (uOut s l) (uOut s l) (by unfold maxLen; omega) (by unfold maxLen; omega) hu1 hu1 w h1 h2)
        have GSF := Lib.hid (fun A1 B1 c1 d1 w h1 h2 => refSame_any A1 B1 c1 d1 (fOut s t) (fOut s t) (by unfold maxLen; omega) (by unfold maxLen; omega) hf1 hf1 w h1 h2)
        simp only [sameB_self] at GSU GSF
        have KD : Hid (∀ e, DoEnd s l e → e = .returned (.tuple #[.string (bstr (dTxt s l)), .int .i64 (dErr s l : Int)])) := fun e h => h.eq
        have KU : Hid (∀ (w w' : World) e, UEnd s l w e w' → ∃ A c, e = .returned (.tuple #[.slice A (uOut s l).length c, .int .i64 (dErr s l : Int)]) ∧ CompsAt w' A (uOut s l)) := fun w w' e h => by
          obtain ⟨A, c, h1, h2⟩ := h
          exact ⟨A, c, h1, CellsAt.of_own h2⟩
        have KF : Hid (∀ (w w' : World) e, DiffEnd s t w e w' → ∃ A c, e = .returned (.tuple #[.slice A (fOut s t).length c, .int .i64 (fErr s t : Int)]) ∧ CompsAt w' A (fOut s t)) := fun w w' e h => by
          obtain ⟨A, c, h1, h2⟩ := h.fn
          exact ⟨A, c, h1, CellsAt.of_own h2⟩
        clear hu1 hu2 hf1 hf2 hs1 hfl
        generalize uOut s l = U at GSU KU
        generalize fOut s t = F at GSF KF
        generalize bstr (dTxt s l) = D at KD
        generalize dErr s l = x at KD KU
        generalize fErr s t = y at KF
        clear hb hbt hg hl
        go_enter Try.func3, Try.ntmps3
        go_wp2_with fail
        refine (GW.out _ HA.out).mono ?_
        rintro e w1 ⟨rfl, hb⟩
        have HW1 : Hid (Below w.heap.size w w1) := HW0.out.trans (hb.mono HW0.out.size)
        replace HA := Lib.hid (HA.out.below hb)
        clear hb
        go_wp2_with fail
        refine (GD.out _ HA.out).mono ?_
        rintro e w2 ⟨hd, hb⟩
        have HW2 : Hid (Below w.heap.size w w2) := HW1.out.trans (hb.mono HW1.out.size)
        replace HA := Lib.hid (HA.out.below hb)
        obtain rfl := KD.out _ hd
        clear hd
        clear hb
        go_wp2_with fail
        refine (GDr.out _ HA.out).mono ?_
        rintro e w3 ⟨hd, hb⟩
        have HW3 : Hid (Below w.heap.size w w3) := HW2.out.trans (hb.mono HW2.out.size)
        replace HA := Lib.hid (HA.out.below hb)
        obtain rfl := KD.out _ hd
        clear hd
        clear hb
        go_wp2_with fail
        refine (GU.out _ HA.out).mono ?_
        rintro e w4 ⟨hd, hb⟩
        have HW4 : Hid (Below w.heap.size w w4) := HW3.out.trans (hb.mono HW3.out.size)
        replace HA := Lib.hid (HA.out.below hb)
        obtain ⟨A1, c1, rfl, hk⟩ := KU.out _ _ _ hd
        have HU1 := Lib.hid hk
        clear hd hk
        clear hb
        go_wp2_with fail
        refine (GUr.out _ HA.out).mono ?_
        rintro e w5 ⟨hd, hb⟩
        have HW5 : Hid (Below w.heap.size w w5) := HW4.out.trans (hb.mono HW4.out.size)
        replace HA := Lib.hid (HA.out.below hb)
        replace HU1 := Lib.hid (HU1.out.below hb)
        obtain ⟨A2, c2, rfl, hk⟩ := KU.out _ _ _ hd.fn
        have HU2 := Lib.hid hk
        clear hd hk
        clear hb
        go_wp2_with fail
        refine (GF.out _).mono ?_
        rintro e w6 ⟨hd, hb⟩
        have HW6 : Hid (Below w.heap.size w w6) := HW5.out.trans (hb.mono HW5.out.size)
        replace HA := Lib.hid (HA.out.below hb)
        replace HU1 := Lib.hid (HU1.out.below hb)
        replace HU2 := Lib.hid (HU2.out.below hb)
        obtain ⟨A3, c3, rfl, hk⟩ := KF.out _ _ _ hd
        have HF1 := Lib.hid hk
        clear hd hk
        clear hb
        go_wp2_with fail
        refine (GFr.out _).mono ?_
        rintro e w7 ⟨hd, hb⟩
        have HW7 : Hid (Below w.heap.size w w7) := HW6.out.trans (hb.mono HW6.out.size)
        replace HA := Lib.hid (HA.out.below hb)
        replace HU1 := Lib.hid (HU1.out.below hb)
        replace HU2 := Lib.hid (HU2.out.below hb)
        replace HF1 := Lib.hid (HF1.out.below hb)
        obtain ⟨A4, c4, rfl, hk⟩ := KF.out _ _ _ hd
        have HF2 := Lib.hid hk
        clear hd hk
        clear hb
        go_wp2_with fail
        refine (GSU.out _ _ _ _ _ HU1.out HU2.out).mono ?_
        rintro e w8 ⟨rfl, hb⟩
        have HW8 : Hid (Below w.heap.size w w8) := HW7.out.trans (hb.mono HW7.out.size)
        replace HA := Lib.hid (HA.out.below hb)
        replace HU1 := Lib.hid (HU1.out.below hb)
        replace HU2 := Lib.hid (HU2.out.below hb)
        replace HF1 := Lib.hid (HF1.out.below hb)
        replace HF2 := Lib.hid (HF2.out.below hb)
        clear hb
        go_wp2_with fail
        refine (GSF.out _ _ _ _ _ HF1.out HF2.out).mono ?_
        rintro e w9 ⟨rfl, hb⟩
        have HW9 : Hid (Below w.heap.size w w9) := HW8.out.trans (hb.mono HW8.out.size)
        replace HA := Lib.hid (HA.out.below hb)
        replace HU1 := Lib.hid (HU1.out.below hb)
        replace HU2 := Lib.hid (HU2.out.below hb)
        replace HF1 := Lib.hid (HF1.out.below hb)
        replace HF2 := Lib.hid (HF2.out.below hb)
        clear hb
        go_wp2_with fail
        refine (GA.out _).mono ?_
        rintro e w10 ⟨rfl, hb⟩
        have HW10 : Hid (Below w.heap.size w w10) := HW9.out.trans (hb.mono HW9.out.size)
        replace HA := Lib.hid (HA.out.below hb)
        replace HU1 := Lib.hid (HU1.out.below hb)
        replace HU2 := Lib.hid (HU2.out.below hb)
        replace HF1 := Lib.hid (HF1.out.below hb)
        replace HF2 := Lib.hid (HF2.out.below hb)
        clear hb
        go_wp2
        go_ret
        exact ⟨rfl, HW10.out⟩
      · have h3' : 3000 < T := by omega
        clear h3
        clear hb
        go_enter Try.func3, Try.ntmps3
        go_wp2_with fail
        refine (GW.out _ HA.out).mono ?_
        rintro e w1 ⟨rfl, hb⟩
        have HW1 : Hid (Below w.heap.size w w1) := HW0.out.trans (hb.mono HW0.out.size)
        clear hb
        go_wp2_with fail
        refine (GA.out _).mono ?_
        rintro e w2 ⟨rfl, hb⟩
        have HW2 : Hid (Below w.heap.size w w2) := HW1.out.trans (hb.mono HW1.out.size)
        clear hb
        go_wp2
        go_ret
        exact ⟨rfl, HW2.out⟩
    · have h2' : 1000 < t.length := by omega
      clear h2
      clear hb
      go_enter Try.func3, Try.ntmps3
      go_wp2_with fail
      refine (GA.out _).mono ?_
      rintro e w1 ⟨rfl, hb⟩
      have HW1 : Hid (Below w.heap.size w w1) := HW0.out.trans (hb.mono HW0.out.size)
      clear hb
      go_wp2
      go_ret
      exact ⟨rfl, HW1.out⟩
  · have h1' : 1000 < s.length := by omega
    clear h1
    clear hb
    go_enter Try.func3, Try.ntmps3
    go_wp2_with fail
    refine (GA.out _).mono ?_
    rintro e w1 ⟨rfl, hb⟩
    have HW1 : Hid (Below w.heap.size w w1) := HW0.out.trans (hb.mono HW0.out.size)
    clear hb
    go_wp2
    go_ret
    exact ⟨rfl, HW1.out⟩
end Go.Proofs.Ytfbkdabnbddgpaa

/- What was done is undone, and what differs is put in place: Do, Undo and Diff, as functions. No condition. -/
namespace Go.Proofs.Ytfbkdabnbddgpaa
open Go.RowKit Go.Deep

theorem wh_tlen : ∀ (l : List CompV), (∀ c ∈ l, Wh c) → tlen l ≤ 4 * outS l
  | [], _ => by simp [tlen]
  | c :: l, h => by
    have ih := wh_tlen l fun x hx => h x (by simp [hx])
    have h1 : tlen (c :: l) = c.text.length + tlen l := by simp [tlen]
    rw [h1, outS_cons]
    rcases (h c (by simp)).cases with ⟨hk, _, ht⟩ | ⟨hk, _, ht⟩ | ⟨hk, _, _, ht⟩
    · rw [ht]; simp; omega
    · rw [ht]; simp; omega
    · have := cps_V ht
      have h2 := E_length_le4 (cps c.text)
      rw [this.bytes] at h2
      rw [out_two hk]
      omega
theorem Ok.tlen {l : List CompV} (h : Ok l) : tlen l ≤ 8000 := by have := wh_tlen l h.wh; have := h.out1; omega
theorem dTxt_ed {s x : List Nat} {l : List CompV} (hz : rCheck l = 0) (hx : V s x) (hn : (x.length : Int) = rBase l) : dTxt s l = E (ed l x) := by
  rw [dTxt, if_pos (dErr_ok hz hx hn), cps_of hx, doRun_ed x (ok_of hz).wh]
/-- A Diff makes one text of the other. -/
theorem diff_does {s t x y : List Nat} (hx : V s x) (hy : V t y) (h3 : x.length ≤ 1099511627776) (hz : rCheck (fOut s t) = 0) : dErr s (fOut s t) = 0 ∧ dTxt s (fOut s t) = t := by
  have hok := ok_of hz
  obtain ⟨h1, h2, _, h4⟩ := pre_suf (preN_pre x y) (sufN_suf x y)
  have hd := of_does (base := x.length) (fr := preN x y) (te := x.length - sufN x y) h1 h2 h3 (midT x y) x rfl
  rw [cps_of (midT_V hy.may), h4] at hd
  have hn : (x.length : Int) = rBase (fOut s t) := by
    rw [hok.base, fOut_yes hx hy, hd.2.1]
  refine ⟨dErr_ok hz hx hn, ?_⟩
  rw [dTxt_ed hz hx hn, fOut_yes hx hy, hd.1, hy.bytes]
/-- What was done is undone, and done again by what undoes that. -/
theorem undo_back {s : List Nat} {l : List CompV} (h : dErr s l = 0) : Ok l ∧ Ok (uOut s l) ∧ dErr (dTxt s l) (uOut s l) = 0 ∧ dTxt (dTxt s l) (uOut s l) = s ∧ uOut (dTxt s l) (uOut s l) = l ∧ ∃ vs, V (dTxt s l) vs ∧ (vs.length : Int) = rOut l ∧ vs.length ≤ 2000 := by
  obtain ⟨hz, x, hx, hn⟩ := dErr_zero h
  have hok := ok_of hz
  have hnx : x.length = inS l := by have := hok.base; omega
  obtain ⟨u1, u2, u3, u4, u5, u6, u7⟩ := undo_ok hok hnx hx.may
  have hU : uOut s l = undoN l x := by rw [uOut, if_pos h, cps_of hx, u1]
  have hlen := ed_length l x hok.wh (by omega)
  have hV : V (E (ed l x)) (ed l x) := V.mk (ed_may l x hok.wh hx.may)
  have ha := dTxt_ed hz hx hn
  have hn2 : ((ed l x).length : Int) = rBase (undoN l x) := by rw [u2.base, u3, hlen]
  have hout := hok.out
  have hout1 := hok.out1
  refine ⟨hok, by rw [hU]; exact u2, ?_, ?_, ?_, ed l x, by rw [ha]; exact hV, by rw [hlen]; omega, by omega⟩
  · rw [ha, hU]; exact dErr_ok u2.check hV hn2
  · rw [ha, hU, dTxt_ed u2.check hV hn2, u6, hx.bytes]
  · rw [ha, hU, uOut, if_pos (dErr_ok u2.check hV hn2), cps_of hV]
    obtain ⟨v1, _⟩ := undo_ok u2 (by rw [hlen, u3]) (ed_may l x hok.wh hx.may)
    rw [v1, u7]
end Go.Proofs.Ytfbkdabnbddgpaa
