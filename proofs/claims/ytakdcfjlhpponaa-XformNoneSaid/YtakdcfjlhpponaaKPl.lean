/- Two texts put in at one place, one behind the other, in plain mathematics. No condition beyond those that each lemma states. (Merged of 2 texts.) -/
import Derived.Test.YtakdcfjlhpponaaKTm
import Derived.Test.YtakdcfjlhpponaaKRef
import Derived.Test.YtakdcfjlhpponaaKAl
/- An edit behind one that does nothing, and one that does nothing behind an edit. No condition beyond those that each lemma states. -/
namespace Go.Proofs.Ytakdcfjlhpponaa

theorem keepL_pos {n : Nat} (h : 0 < n) : keepL (n : Int) = [⟨1, (n : Int), []⟩] := by rw [keepL, if_neg (by omega)]
theorem keepL_kd (n : Nat) : kd (keepL (n : Int)) ≠ 2 := by
  rw [keepL]
  split
  · decide
  · show (1 : Int) ≠ 2; decide
theorem keepL_chop {n m : Nat} (h0 : 0 < m) (h1 : m ≤ n) : chop ⟨1, (n : Int), []⟩ [] m = keepL ((n - m : Nat) : Int) := by
  rw [chop, sz_not (by show (1 : Int) ≠ 2; decide)]
  show (if m = (n : Int).toNat then [] else [cut ⟨1, (n : Int), []⟩ m]) = _
  rw [keepL]
  by_cases he : m = n
  · rw [if_pos (by omega), if_pos (by omega)]
  · rw [if_neg (by omega), if_neg (by omega), cut, if_neg (by show ¬ (1 : Int) = 2; decide)]
    show [CompV.mk 1 ((n : Int) - m) []] = _
    rw [show ((n - m : Nat) : Int) = (n : Int) - m by omega]
theorem keepL_sz (n : Nat) : sz ⟨1, (n : Int), []⟩ = n := by
  rw [sz_not (by show (1 : Int) ≠ 2; decide)]
  show (n : Int).toNat = n
  omega
/-- Behind an edit that does nothing an edit is as it was. -/
theorem ov_keep (f : Bool) : ∀ (a : List CompV) (n : Nat), (∀ x ∈ a, Wh x) → inS a = n → Ov f a (keepL (n : Int)) a
  | [], n, _, h => by
    rw [inS_nil] at h
    subst h
    exact .nil
  | c :: a, n, ha, h => by
    have ha' := fun x hx => ha x (List.mem_cons_of_mem _ hx)
    have hc := ha c (by simp)
    have hall : chop c a (sz c) = a := if_pos rfl
    have main : c.kind ≠ 2 → inS (c :: a) = sz c + inS a → Ov f (c :: a) (keepL (n : Int)) (c :: a) := fun hk ho => by
      have hsz := hc.sz
      have h1 : min (sz c) (sz ⟨1, (n : Int), []⟩) = sz c := by rw [keepL_sz]; omega
      have := Ov.both (f := f) c a ⟨1, (n : Int), []⟩ [] a _ hk (by show (1 : Int) ≠ 2; decide) rfl (by
        rw [h1, hall, keepL_chop hsz (by omega)]
        exact ov_keep f a _ ha' (by omega))
      rw [if_pos rfl, h1, piece_all hc] at this
      rw [keepL_pos (by omega)]
      exact this
    rcases hc.cases with ⟨g, gn, gt⟩ | ⟨g, gn, gt⟩ | ⟨g, gn, gt, gv⟩
    · exact main (by omega) (by rw [inS_cons, in_one g, sz_not (by omega)])
    · exact main (by omega) (by rw [inS_cons, in_three g, sz_not (by omega)])
    · exact .puts c a _ a g (.inr (keepL_kd n)) (ov_keep f a n ha' (by rw [← h, inS_cons, in_two g]; omega))
/-- One that does nothing does nothing behind any. -/
theorem keep_ov (f : Bool) : ∀ (b : List CompV) (n : Nat), (∀ x ∈ b, Wh x) → inS b = n → ∃ o, Ov f (keepL (n : Int)) b o ∧ ∀ x ∈ o, x.kind = 1
  | [], n, _, h => by
    rw [inS_nil] at h
    subst h
    exact ⟨[], .nil, fun x hx => by cases hx⟩
  | d :: b, n, hb, h => by
    have hb' := fun x hx => hb x (List.mem_cons_of_mem _ hx)
    have hd := hb d (by simp)
    have hall : chop d b (sz d) = b := if_pos rfl
    have main : d.kind ≠ 2 → inS (d :: b) = sz d + inS b → ∃ o, Ov f (keepL (n : Int)) (d :: b) o ∧ ∀ x ∈ o, x.kind = 1 := fun hk ho => by
      have hsz := hd.sz
      have h1 : min (sz ⟨1, (n : Int), []⟩) (sz d) = sz d := by rw [keepL_sz]; omega
      obtain ⟨o, ho1, ho2⟩ := keep_ov f b (n - sz d) hb' (by omega)
      have := Ov.both (f := f) ⟨1, (n : Int), []⟩ [] d b o _ (by show (1 : Int) ≠ 2; decide) hk rfl (by
        rw [h1, hall, keepL_chop hsz (by omega)]
        exact ho1)
      rw [h1, piece_one rfl] at this
      rw [keepL_pos (by omega)]
      refine ⟨_, this, fun x hx => ?_⟩
      rcases List.mem_append.1 hx with hx | hx
      · split at hx
        · rw [List.mem_singleton.1 hx]
        · cases hx
      · exact ho2 x hx
    rcases hd.cases with ⟨g, gn, gt⟩ | ⟨g, gn, gt⟩ | ⟨g, gn, gt, gv⟩
    · exact main (by omega) (by rw [inS_cons, in_one g, sz_not (by omega)])
    · exact main (by omega) (by rw [inS_cons, in_three g, sz_not (by omega)])
    · obtain ⟨o, ho1, ho2⟩ := keep_ov f b n hb' (by rw [← h, inS_cons, in_two g]; omega)
      exact ⟨_, .pass _ d b o (fun h => keepL_kd n h.1) g ho1, fun x hx => by
        rcases List.mem_cons.1 hx with rfl | hx
        · rfl
        · exact ho2 x hx⟩
/-- Both, of an edit that is checked. -/
theorem over_keep (f : Bool) {a : List CompV} (h : Ok a) : rOver f a (keepL (inS a : Int)) = (a, 0) := by
  have hb1 := h.base1
  have k1 := keep_ok hb1
  rw [rOver_yes h.check k1.1.check (by rw [k1.1.base, k1.2.1, h.base]) (ov_keep f a _ h.wh rfl), ok_self h]
theorem run_keeps : ∀ (l : List CompV) (s : NS), (∀ x ∈ l, x.kind = 1) → s.out = [] ∧ s.text = [] ∧ s.gone = 0 → (l.foldl nStep s).out = [] ∧ (l.foldl nStep s).text = [] ∧ (l.foldl nStep s).gone = 0
  | [], s, _, h => h
  | c :: l, s, hl, h => by
    rw [List.foldl_cons]
    refine run_keeps l _ (fun x hx => hl x (List.mem_cons_of_mem _ hx)) ?_
    have hk := hl c (by simp)
    obtain ⟨h1, h2, h3⟩ := h
    rw [nStep, if_neg (by omega), if_neg (by omega)]
    split
    · exact ⟨h1, h2, h3⟩
    · rw [if_neg (by rw [h2, h3]; simp)]
      exact ⟨h1, h2, h3⟩
theorem normal_keeps {o : List CompV} (h : ∀ x ∈ o, x.kind = 1) : idleB (rNormal o) = true := by
  obtain ⟨h1, h2, h3⟩ := run_keeps o nStart h ⟨rfl, rfl, rfl⟩
  rw [rNormal, nRun, NS.flush, h1, h2, h3]
  unfold keepOf textOf goneOf
  split <;> simp [idleB]
theorem keep_over (f : Bool) {b : List CompV} (h : Ok b) : ∃ P, OverIs f (keepL (inS b : Int)) b P ∧ idleB P = true := by
  have k1 := keep_ok h.base1
  obtain ⟨o, ho, hk⟩ := keep_ov f b _ h.wh rfl
  obtain ⟨P, hP⟩ := over_is f k1.1 h k1.2.1
  have e := hP.over
  rw [rOver_yes k1.1.check h.check (by rw [k1.1.base, k1.2.1, h.base]) ho] at e
  refine ⟨P, hP, ?_⟩
  rw [← (Prod.mk.inj e).1]
  exact normal_keeps hk
end Go.Proofs.Ytakdcfjlhpponaa

/- Two texts put in at one place, one behind the other, in plain mathematics. No condition beyond those that each lemma states. -/
namespace Go.Proofs.Ytakdcfjlhpponaa

theorem keepOf_pos {n : Nat} (h : 0 < n) : keepOf (n : Int) = [⟨1, (n : Int), []⟩] := by unfold keepOf; rw [if_pos (by omega)]
theorem keepOf_zero : keepOf ((0 : Nat) : Int) = [] := rfl
theorem keepOf_kd (n : Nat) : kd (keepOf (n : Int)) ≠ 2 := by rw [← keepL_of]; exact keepL_kd n
theorem piece_keep (n : Nat) : piece ⟨1, (n : Int), []⟩ n = ⟨1, (n : Int), []⟩ := by rw [piece, if_neg (by simp)]
/-- What both begin with is kept. -/
theorem ov_both_keep (f : Bool) {a b o : List CompV} (h : Ov f a b o) (n : Nat) : Ov f (keepOf (n : Int) ++ a) (keepOf (n : Int) ++ b) (keepOf (n : Int) ++ o) := by
  by_cases hn : n = 0
  · subst hn
    rw [keepOf_zero]
    exact h
  · rw [keepOf_pos (by omega)]
    have hs := keepL_sz n
    have e := Ov.both (f := f) ⟨1, (n : Int), []⟩ a ⟨1, (n : Int), []⟩ b o n (by simp) (by simp) (by rw [hs]; omega) (by rw [chop, chop, if_pos hs.symm, if_pos hs.symm]; exact h)
    rw [if_pos rfl, piece_keep] at e
    exact e
theorem ov_keeps (f : Bool) (n : Nat) : Ov f (keepOf (n : Int)) (keepOf (n : Int)) (keepOf (n : Int)) := by
  have := ov_both_keep f .nil n
  simpa using this
/-- One text at a place. -/
def putAt (k m x : Nat) : List CompV := keepOf (k : Int) ++ (⟨2, 0, [x]⟩ :: keepOf (m : Int))
theorem ov_place (f : Bool) (k m x y : Nat) (hy : 0 < y ∧ y < 128) :
    Ov f (putAt k m x) (putAt k m y) (keepOf (k : Int) ++ ((if f then [⟨2, 0, [x]⟩, ⟨1, 1, []⟩] else [⟨1, 1, []⟩, ⟨2, 0, [x]⟩]) ++ keepOf (m : Int))) := by
  have sy : sz ⟨2, 0, [y]⟩ = 1 := by rw [sz_two rfl, cps_of (V_one y hy)]; rfl
  refine ov_both_keep f ?_ k
  cases f with
  | true =>
    refine .puts ⟨2, 0, [x]⟩ _ _ _ rfl (.inl rfl) ?_
    have e := Ov.pass (f := true) (keepOf (m : Int)) ⟨2, 0, [y]⟩ _ _ (fun h => keepOf_kd m h.1) rfl (ov_keeps true m)
    rw [sy] at e
    exact e
  | false =>
    have e := Ov.pass (f := false) (⟨2, 0, [x]⟩ :: keepOf (m : Int)) ⟨2, 0, [y]⟩ _ _ (fun h => by have := h.2; revert this; decide) rfl (.puts ⟨2, 0, [x]⟩ _ _ _ rfl (.inr (keepOf_kd m)) (ov_keeps false m))
    rw [sy] at e
    exact e
theorem putAt_of {n k : Nat} (hk : k ≤ n) (hn : n ≤ 1099511627776) (x : Nat) : rNormal (ofParts (n : Int) (k : Int) (k : Int) [x]) = putAt k (n - k) x := by
  rw [of_form (Nat.le_refl k) hk hn, if_neg (by simp)]
  unfold putAt textOf goneOf
  rw [if_neg (by simp), if_neg (by omega)]
  simp
/-- Both texts stand there, the first one's first. -/
theorem place_all (f : Bool) {n k : Nat} (hk : k ≤ n) (hn : n ≤ 300) (x y : Nat) (hx : 0 < x ∧ x < 128) (hy : 0 < y ∧ y < 128) :
    Ok (putAt k (n - k) x) ∧ Ok (putAt k (n - k) y) ∧ inS (putAt k (n - k) y) = n ∧ (∀ vs : List Nat, vs.length = n → ed (putAt k (n - k) y) vs = vs.take k ++ [y] ++ vs.drop k) ∧
      ∃ P, OverIs f (putAt k (n - k) x) (putAt k (n - k) y) P ∧ Ok P ∧ ∀ vs : List Nat, vs.length = n → ed P (vs.take k ++ [y] ++ vs.drop k) = vs.take k ++ (if f then [x, y] else [y, x]) ++ vs.drop k := by
  have ok1 : ∀ z : Nat, 0 < z ∧ z < 128 → Ok (putAt k (n - k) z) ∧ inS (putAt k (n - k) z) = n ∧ (∀ vs : List Nat, vs.length = n → ed (putAt k (n - k) z) vs = vs.take k ++ [z] ++ vs.drop k) := by
    intro z hz
    have hv : ∃ vs, V [z] vs := ⟨_, V_one z hz⟩
    have h := of_ok (Nat.le_refl k) hk (by omega) (t := [z]) hv (by rw [cps_of (V_one z hz)]; simp; omega)
    have hd := fun vs hvs => of_does (Nat.le_refl k) hk (by omega) [z] vs hvs
    rw [putAt_of hk (by omega)] at h hd
    refine ⟨h, (hd (List.replicate n 0) (by simp)).2.1, fun vs hvs => ?_⟩
    have := (hd vs hvs).1
    rw [cps_of (V_one z hz)] at this
    exact this
  obtain ⟨a1, a2, a3⟩ := ok1 x hx
  obtain ⟨b1, b2, b3⟩ := ok1 y hy
  obtain ⟨P, hP⟩ := over_is f a1 b1 (by rw [a2, b2])
  obtain ⟨o, ho, hPo, he⟩ := hP.raw
  have e := Ov.one ho (ov_place f k (n - k) x y hy)
  have cx := cps_of (V_one x hx)
  have hed : ∀ vs : List Nat, vs.length = n → ed P (vs.take k ++ [y] ++ vs.drop k) = vs.take k ++ (if f then [x, y] else [y, x]) ++ vs.drop k := by
    intro vs hvs
    have t1 : (vs.take k).length = k := by rw [List.length_take]; omega
    have t2 : (vs.drop k).length = n - k := by rw [List.length_drop, hvs]
    rw [he, e, ed_append, (ed_keep (by omega) _).1, (ed_keep (by omega) ([] : List Nat)).2, ed_append, (ed_keep (by omega) _).1]
    simp only [Int.toNat_natCast]
    rw [List.append_assoc, List.take_left' t1, List.drop_left' t1]
    cases f with
    | true =>
      rw [if_pos rfl, if_pos rfl, ed_two rfl, ed_one rfl, ed_nil, cx, inS_cons, inS_cons, in_two rfl, in_one rfl, inS_nil]
      have e1 : ((1 : Int).toNat) = 1 := rfl
      simp only [e1, List.singleton_append, List.take_succ_cons, List.take_zero, List.drop_succ_cons, List.drop_zero, Nat.zero_add, Nat.add_zero]
      have e3 : List.take (n - k) (List.drop k vs) = List.drop k vs := List.take_of_length_le (by omega)
      simp [e3]
    | false =>
      rw [if_neg (by simp), if_neg (by simp), ed_one rfl, ed_two rfl, ed_nil, cx, inS_cons, inS_cons, in_one rfl, in_two rfl, inS_nil]
      have e1 : ((1 : Int).toNat) = 1 := rfl
      simp only [e1, List.singleton_append, List.take_succ_cons, List.take_zero, List.drop_succ_cons, List.drop_zero, Nat.add_zero]
      have e3 : List.take (n - k) (List.drop k vs) = List.drop k vs := List.take_of_length_le (by omega)
      simp [e3]
  refine ⟨a1, b1, b2, b3, P, hP, ?_, hed⟩
  have hin := hP.ins
  have hch := hP.ch
  have hvl : (List.replicate n 0).length = n := by simp
  have hl := ed_length P ((List.replicate n 0).take k ++ [y] ++ (List.replicate n 0).drop k) hch.wh (by
    rw [hin]
    have := ed_length (putAt k (n - k) y) (List.replicate n 0) b1.wh (by rw [b2, hvl]; exact Nat.le_refl _)
    rw [b3 _ hvl] at this
    rw [this]; exact Nat.le_refl _)
  rw [hed _ hvl] at hl
  have hlen : ((List.replicate n 0).take k ++ (if f then [x, y] else [y, x]) ++ (List.replicate n 0).drop k).length = n + 2 := by
    cases f <;> simp <;> omega
  rw [hlen] at hl
  have ho1 := b1.out1
  refine ok_mk ?_ hch.nrm (by rw [hin]; exact ho1) (by omega)
  rw [hPo]
  have h1 := norm_len o
  have h2 : o.length ≤ 4 := by
    rw [e]
    have e1 : ∀ n : Nat, (keepOf (n : Int)).length ≤ 1 := fun n => by unfold keepOf; split <;> simp
    have := e1 k; have := e1 (n - k)
    rw [List.length_append, List.length_append]
    cases f <;> simp <;> omega
  omega
end Go.Proofs.Ytakdcfjlhpponaa
