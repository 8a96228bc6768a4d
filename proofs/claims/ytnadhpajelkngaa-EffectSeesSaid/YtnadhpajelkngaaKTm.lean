/- One edit behind another one, as a function: for the laws of xform. No condition beyond those that each lemma states. (Merged of 4 texts.) -/
import Derived.Test.YtnadhpajelkngaaKRef
import Derived.Test.YtnadhpajelkngaaKAp
import Derived.Test.YtnadhpajelkngaaKEdit
/- What Diff answers, as a function of the two texts; the document's own and the landed one both answer so. No condition. -/
namespace Go.Proofs.Ytnadhpajelkngaa
open Go.RowKit Go.Deep

theorem run_exists (Q : Nat → Prop) : ∀ N, ∃ s, s ≤ N ∧ (∀ i, i < s → Q i) ∧ ¬ (s < N ∧ Q s)
  | 0 => ⟨0, Nat.le_refl _, fun i h => by omega, fun h => by omega⟩
  | N + 1 => by
    obtain ⟨s, h1, h2, h3⟩ := run_exists Q N
    by_cases hs : s < N
    · exact ⟨s, by omega, h2, fun h => h3 ⟨hs, h.2⟩⟩
    · have e : s = N := by omega
      subst e
      by_cases hq : Q s
      · refine ⟨s + 1, Nat.le_refl _, fun i hi => ?_, fun h => by omega⟩
        rcases Nat.lt_or_ge i s with h | h
        · exact h2 i h
        · rw [show i = s by omega]; exact hq
      · exact ⟨s, by omega, h2, fun h => hq h.2⟩
theorem pre_exists (x y : List Nat) : ∃ p, PreOf x y p := by
  obtain ⟨p, h1, h2, h3⟩ := run_exists (fun i => x[i]? = y[i]?) (min x.length y.length)
  exact ⟨p, by omega, by omega, h2, fun h => h3 ⟨by omega, h.2.2⟩⟩
theorem suf_exists (x y : List Nat) (p : Nat) : ∃ s, SufOf x y p s := by
  obtain ⟨s, h1, h2, h3⟩ := run_exists (fun i => x[x.length - 1 - i]? = y[y.length - 1 - i]?) (min (x.length - p) (y.length - p))
  exact ⟨s, by omega, by omega, h2, fun h => h3 ⟨by omega, h.2.2⟩⟩
theorem PreOf.uniq {x y : List Nat} {p q : Nat} (h : PreOf x y p) (k : PreOf x y q) : p = q := by
  obtain ⟨h1, h2, h3, h4⟩ := h
  obtain ⟨k1, k2, k3, k4⟩ := k
  rcases Nat.lt_or_ge p q with hh | hh
  · exact absurd ⟨by omega, by omega, k3 p hh⟩ h4
  · rcases Nat.lt_or_ge q p with hk | hk
    · exact absurd ⟨by omega, by omega, h3 q hk⟩ k4
    · omega
theorem SufOf.uniq {x y : List Nat} {p s r : Nat} (h : SufOf x y p s) (k : SufOf x y p r) : s = r := by
  obtain ⟨h1, h2, h3, h4⟩ := h
  obtain ⟨k1, k2, k3, k4⟩ := k
  rcases Nat.lt_or_ge s r with hh | hh
  · exact absurd ⟨by omega, by omega, k3 s hh⟩ h4
  · rcases Nat.lt_or_ge r s with hk | hk
    · exact absurd ⟨by omega, by omega, h3 r hk⟩ k4
    · omega
noncomputable def preN (x y : List Nat) : Nat := Classical.choose (pre_exists x y)
theorem preN_pre (x y : List Nat) : PreOf x y (preN x y) := Classical.choose_spec (pre_exists x y)
noncomputable def sufN (x y : List Nat) : Nat := Classical.choose (suf_exists x y (preN x y))
theorem sufN_suf (x y : List Nat) : SufOf x y (preN x y) (sufN x y) := Classical.choose_spec (suf_exists x y (preN x y))

/-- What Diff puts in. -/
noncomputable def midT (x y : List Nat) : List Nat := E ((y.take (y.length - sufN x y)).drop (preN x y))
open Classical in
/-- Diff's error, and its edit. -/
noncomputable def fErr (a b : List Nat) : Nat := if (∃ x, V a x) ∧ ∃ y, V b y then 0 else 2
open Classical in
noncomputable def fOut (a b : List Nat) : List CompV :=
  if (∃ x, V a x) ∧ ∃ y, V b y then rNormal (ofParts ((cps a).length : Int) (preN (cps a) (cps b) : Int) (((cps a).length - sufN (cps a) (cps b) : Nat) : Int) (midT (cps a) (cps b))) else []
theorem fErr_no {a b : List Nat} (h : ¬ (∃ x, V a x) ∨ ¬ ∃ y, V b y) : fErr a b = 2 := if_neg (fun hh => h.elim (fun h => h hh.1) (fun h => h hh.2))
theorem fOut_no {a b : List Nat} (h : ¬ (∃ x, V a x) ∨ ¬ ∃ y, V b y) : fOut a b = [] := if_neg (fun hh => h.elim (fun h => h hh.1) (fun h => h hh.2))
theorem fErr_yes {a b x y : List Nat} (hx : V a x) (hy : V b y) : fErr a b = 0 := if_pos ⟨⟨x, hx⟩, y, hy⟩
theorem fOut_yes {a b x y : List Nat} (hx : V a x) (hy : V b y) : fOut a b = rNormal (ofParts (x.length : Int) (preN x y : Int) ((x.length - sufN x y : Nat) : Int) (midT x y)) := by
  rw [fOut, if_pos ⟨⟨x, hx⟩, y, hy⟩, cps_of hx, cps_of hy]
theorem midT_V {x y : List Nat} (hy : ∀ v ∈ y, May v) : V (midT x y) ((y.take (y.length - sufN x y)).drop (preN x y)) := V.mk fun v hv => hy v (List.mem_of_mem_take (List.mem_of_mem_drop hv))
theorem diff_not {x y : List Nat} (hy : ∀ v ∈ y, May v) : ¬ OfNo (x.length : Int) (preN x y : Int) ((x.length - sufN x y : Nat) : Int) (midT x y) := by
  have h1 := (preN_pre x y).1
  have h2 := (sufN_suf x y).1
  rintro (h | h | h | h)
  · omega
  · omega
  · omega
  · exact h ⟨_, midT_V hy⟩
/-- What is told of Diff. -/
def FEnd (a b : List Nat) (w : World) (e : Ending) (w' : World) : Prop :=
  ∃ A c, e = .returned (.tuple #[.slice A (fOut a b).length c, .int .i64 (fErr a b : Int)]) ∧ w'.ownsRow w.heap.size 54 3 (.slice A (fOut a b).length c) (fOut a b).length ((fOut a b).flatMap compCells)
theorem DiffEnd.fn {a b : List Nat} {w w' : World} {e : Ending} (h : DiffEnd a b w e w') : FEnd a b w e w' := by
  rcases h with ⟨hn, rfl⟩ | ⟨x, y, p, s, hx, hy, hp, hs, ho⟩
  · rw [FEnd, fOut_no hn, fErr_no hn]; exact ⟨none, 0, rfl, World.ownsRow_nil _ _ _ _⟩
  · obtain rfl := hp.uniq (preN_pre x y)
    obtain rfl := hs.uniq (sufN_suf x y)
    rw [FEnd, fOut_yes hx hy, fErr_yes hx hy]
    rcases ho with ⟨hno, _⟩ | ⟨_, A, c, rfl, hr⟩
    · exact absurd hno (diff_not hy.may)
    · exact ⟨A, c, rfl, hr⟩
end Go.Proofs.Ytnadhpajelkngaa

/- What was done is undone, and what differs is put in place: Do, Undo and Diff, as functions. No condition. -/
namespace Go.Proofs.Ytnadhpajelkngaa
open Go.RowKit Go.Deep

/-- A Diff makes one text of the other. -/
theorem diff_does {s t x y : List Nat} (hx : V s x) (hy : V t y) (h3 : x.length ≤ 1099511627776) (hz : rCheck (fOut s t) = 0) : dErr s (fOut s t) = 0 ∧ dTxt s (fOut s t) = t := by
  have hok := ok_of hz
  obtain ⟨h1, h2, _, h4⟩ := pre_suf (preN_pre x y) (sufN_suf x y)
  have hd := of_does (base := x.length) (fr := preN x y) (te := x.length - sufN x y) h1 h2 h3 (midT x y) x rfl
  rw [cps_of (midT_V hy.may), h4] at hd
  have hn : (x.length : Int) = rBase (fOut s t) := by
    rw [hok.base, fOut_yes hx hy, hd.2.1]
  refine ⟨dErr_ok hz hx hn, ?_⟩
  rw [dTxt_ed hz hx hn, fOut_yes hx hy, hd.1, hy.bytes]
/-- What was done is undone, and done again by what undoes that. -/
theorem undo_back {s : List Nat} {l : List CompV} (h : dErr s l = 0) : Ok l ∧ Ok (uOut s l) ∧ dErr (dTxt s l) (uOut s l) = 0 ∧ dTxt (dTxt s l) (uOut s l) = s ∧ uOut (dTxt s l) (uOut s l) = l ∧ ∃ vs, V (dTxt s l) vs ∧ (vs.length : Int) = rOut l ∧ vs.length ≤ 2000 := by
  obtain ⟨hz, x, hx, hn⟩ := dErr_zero h
  have hok := ok_of hz
  have hnx : x.length = inS l := by have := hok.base; omega
  obtain ⟨u1, u2, u3, u4, u5, u6, u7⟩ := undo_ok hok hnx hx.may
  have hU : uOut s l = undoN l x := by rw [uOut, if_pos h, cps_of hx, u1]
  have hlen := ed_length l x hok.wh (by omega)
  have hV : V (E (ed l x)) (ed l x) := V.mk (ed_may l x hok.wh hx.may)
  have ha := dTxt_ed hz hx hn
  have hn2 : ((ed l x).length : Int) = rBase (undoN l x) := by rw [u2.base, u3, hlen]
  have hout := hok.out
  have hout1 := hok.out1
  refine ⟨hok, by rw [hU]; exact u2, ?_, ?_, ?_, ed l x, by rw [ha]; exact hV, by rw [hlen]; omega, by omega⟩
  · rw [ha, hU]; exact dErr_ok u2.check hV hn2
  · rw [ha, hU, dTxt_ed u2.check hV hn2, u6, hx.bytes]
  · rw [ha, hU, uOut, if_pos (dErr_ok u2.check hV hn2), cps_of hV]
    obtain ⟨v1, _⟩ := undo_ok u2 (by rw [hlen, u3]) (ed_may l x hok.wh hx.may)
    rw [v1, u7]
end Go.Proofs.Ytnadhpajelkngaa

/- What two edits as one do, and a row of them, as functions: for the laws of compose. No condition beyond those that each lemma states. -/
namespace Go.Proofs.Ytnadhpajelkngaa

theorem in_le_mem : ∀ {l : List CompV} {y : CompV}, y ∈ l → inN y ≤ inS l
  | c :: l, y, h => by
    rw [inS_cons]
    rcases List.mem_cons.1 h with rfl | h
    · omega
    · have := in_le_mem h
      omega
/-- How much is left to be walked. -/
noncomputable def szs : List CompV → Nat
  | [] => 0
  | c :: l => sz c + 1 + szs l
theorem szs_nil : szs [] = 0 := rfl
theorem szs_cons (c : CompV) (l : List CompV) : szs (c :: l) = sz c + 1 + szs l := rfl
theorem szs_chop {c : CompV} (h : Wh c) (l : List CompV) {n : Nat} (h0 : 0 < n) (hn : n ≤ sz c) : szs (chop c l n) < szs (c :: l) := by
  rw [szs_cons]
  by_cases he : n = sz c
  · rw [chop, if_pos he]; omega
  · rw [chop, if_neg he, szs_cons, (cut_wh h (by omega)).2]; omega
theorem cmp_exists : ∀ (m : Nat) (a b : List CompV), szs a + szs b ≤ m → (∀ x ∈ a, Wh x) → (∀ x ∈ b, Wh x) → outS a = inS b → ∃ o, Cmp a b o := by
  intro m
  induction m with
  | zero =>
    intro a b hm ha hb he
    cases a with
    | cons c a => rw [szs_cons] at hm; omega
    | nil =>
      cases b with
      | cons d b => rw [szs_cons] at hm; omega
      | nil => exact ⟨_, .nil⟩
  | succ m ih =>
    intro a b hm ha hb he
    cases a with
    | nil =>
      cases b with
      | nil => exact ⟨_, .nil⟩
      | cons d b =>
        rcases (hb d (by simp)).cases with ⟨g, gn, _⟩ | ⟨g, gn, _⟩ | ⟨g, _⟩
        · rw [outS_nil, inS_cons, in_one g] at he; omega
        · rw [outS_nil, inS_cons, in_three g] at he; omega
        · obtain ⟨o, ho⟩ := ih [] b (by rw [szs_cons] at hm; omega) ha (fun x hx => hb x (by simp [hx])) (by rw [inS_cons, in_two g] at he; omega)
          exact ⟨_, .puts [] d b o (by decide) g ho⟩
    | cons c a =>
      have ha' := fun x hx => ha x (List.mem_cons_of_mem _ hx)
      have hc := ha c (by simp)
      by_cases hk : c.kind = 3
      · obtain ⟨o, ho⟩ := ih a b (by rw [szs_cons] at hm; omega) ha' hb (by rw [outS_cons, out_three hk] at he; omega)
        exact ⟨_, .gone c a b o hk ho⟩
      · cases b with
        | nil =>
          rw [outS_cons, inS_nil] at he
          rcases hc.cases with ⟨g, gn, _⟩ | ⟨g, _⟩ | ⟨g, _, gt, gv⟩
          · rw [out_one g] at he; omega
          · exact absurd g hk
          · rw [out_two g] at he
            have := cps_ne gv gt
            omega
        | cons d b =>
          have hb' := fun x hx => hb x (List.mem_cons_of_mem _ hx)
          have hd := hb d (by simp)
          by_cases hk2 : d.kind = 2
          · obtain ⟨o, ho⟩ := ih (c :: a) b (by rw [szs_cons d] at hm; omega) ha hb' (by rw [inS_cons, in_two hk2] at he; omega)
            exact ⟨_, .puts (c :: a) d b o (by show c.kind ≠ 3; exact hk) hk2 ho⟩
          · have hn0 : 0 < min (sz c) (sz d) := by have := hc.sz; have := hd.sz; omega
            have h1 := chop_ed hc a hn0 (Nat.min_le_left _ _)
            have h2 := chop_ed hd b hn0 (Nat.min_le_right _ _)
            have p1 := piece_wh hc hn0 (Nat.min_le_left _ _)
            have p2 := piece_wh hd hn0 (Nat.min_le_right _ _)
            have s1 := szs_chop hc a hn0 (Nat.min_le_left _ _)
            have s2 := szs_chop hd b hn0 (Nat.min_le_right _ _)
            have o1 : outN (piece c (min (sz c) (sz d))) = min (sz c) (sz d) := by
              have e := piece_kind c (min (sz c) (sz d))
              rcases hc.cases with ⟨g, _⟩ | ⟨g, _⟩ | ⟨g, _⟩
              · rw [g] at e; rw [out_one e]; have := p1.2; rw [sz_not (by omega)] at this; exact this
              · exact absurd g hk
              · rw [g] at e; rw [out_two e]; have := p1.2; rw [sz_two e] at this; exact this
            have i1 : inN (piece d (min (sz c) (sz d))) = min (sz c) (sz d) := by
              have e := piece_kind d (min (sz c) (sz d))
              rcases hd.cases with ⟨g, _⟩ | ⟨g, _⟩ | ⟨g, _⟩
              · rw [g] at e; rw [in_one e]; have := p2.2; rw [sz_not (by omega)] at this; exact this
              · rw [g] at e; rw [in_three e]; have := p2.2; rw [sz_not (by omega)] at this; exact this
              · exact absurd g hk2
            obtain ⟨o, ho⟩ := ih (chop c a (min (sz c) (sz d))) (chop d b (min (sz c) (sz d))) (by omega) (h1.2.2.2 ha') (h2.2.2.2 hb') (by rw [h1.2.2.1, h2.2.1, o1, i1] at he; omega)
            exact ⟨_, .both c a d b o _ hk hk2 rfl ho⟩
/-- Two checked edits that fit, as one. -/
structure TwoIs (a b d : List CompV) : Prop where
  two : rTwo a b = (d, 0)
  ch : Ch 0 d
  ins : inS d = inS a
  outs : outS d = outS b
  ed : ∀ vs, vs.length = inS a → ed d vs = ed b (ed a vs)
theorem two_is {a b : List CompV} (ha : Ok a) (hb : Ok b) (he : outS a = inS b) : ∃ d, TwoIs a b d := by
  obtain ⟨o, ho⟩ := cmp_exists _ a b (Nat.le_refl _) ha.wh hb.wh he
  have h := ho.ed ha.wh hb.wh he
  have hi := ha.base1
  have hn := norm_ed h.wh (by rw [h.ins]; omega)
  refine ⟨rNormal o, rTwo_yes ha.check hb.check (by rw [ha.out, hb.base, he]) ho, hn.ch, by rw [hn.ins, h.ins], by rw [hn.outs, h.outs], fun vs hv => by rw [hn.ed, h.ed vs hv]⟩
theorem two_no {a b : List CompV} (h : (rTwo a b).2 = 0) : Ok a ∧ Ok b ∧ outS a = inS b := by
  unfold rTwo at h
  by_cases h1 : rCheck a = 0
  · rw [if_neg (by simp [h1])] at h
    by_cases h2 : rCheck b = 0
    · rw [if_neg (by simp [h2])] at h
      by_cases h3 : rOut a = rBase b
      · have ka := ok_of h1
        have kb := ok_of h2
        have e1 := ka.out
        have e2 := kb.base
        exact ⟨ka, kb, by omega⟩
      · rw [if_pos h3] at h; cases h
    · rw [if_pos h2] at h; exact absurd h h2
  · rw [if_pos h1] at h; exact absurd h h1
theorem keepL_of (n : Nat) : keepL (n : Int) = keepOf n := by
  unfold keepL keepOf
  by_cases h : n = 0
  · subst h; simp
  · rw [if_neg (by omega), if_pos (by omega)]
theorem keep_ok {n : Nat} (h : n ≤ 2000) : Ok (keepL (n : Int)) ∧ inS (keepL (n : Int)) = n ∧ outS (keepL (n : Int)) = n ∧ ∀ vs : List Nat, vs.length = n → ed (keepL (n : Int)) vs = vs := by
  rw [keepL]
  by_cases h0 : n = 0
  · subst h0
    rw [if_pos (by omega)]
    exact ⟨ok_mk (by simp) (Ch.nrm (l := []) trivial) (by rw [inS_nil]; omega) (by rw [outS_nil]; omega), inS_nil, outS_nil, fun vs hv => by rw [ed_nil]; exact (List.eq_nil_of_length_eq_zero hv).symm⟩
  · rw [if_neg (by omega)]
    have hc : Ch 0 [⟨1, (n : Int), []⟩] := ⟨.inl ⟨.inl rfl, by show (1 : Int) ≤ n; omega, rfl⟩, by show (0 : Int) ≠ 1; decide, by show ¬ ((0 : Int) = 3 ∧ (1 : Int) = 2); decide, trivial⟩
    have hi : inS [⟨1, (n : Int), []⟩] = n := by rw [inS_cons, inS_nil, in_one rfl]; show (n : Int).toNat + 0 = n; omega
    have ho : outS [⟨1, (n : Int), []⟩] = n := by rw [outS_cons, outS_nil, out_one rfl]; show (n : Int).toNat + 0 = n; omega
    refine ⟨ok_mk (by simp) hc.nrm (by rw [hi]; exact h) (by rw [ho]; exact h), hi, ho, fun vs hv => ?_⟩
    rw [ed_one rfl, ed_nil, List.append_nil]
    exact List.take_of_length_le (by show vs.length ≤ (n : Int).toNat; omega)
theorem piece_one {c : CompV} (h : c.kind = 1) (n : Nat) : piece c n = ⟨1, n, []⟩ := by rw [piece, if_neg (by omega), h]
/-- Nothing done, then an edit. -/
theorem cmp_keep : ∀ (b : List CompV) (n : Nat), (∀ x ∈ b, Wh x) → inS b = n → Cmp (keepL (n : Int)) b b
  | [], n, _, h => by
    rw [inS_nil] at h
    subst h
    exact .nil
  | d :: b, n, hb, h => by
    have hb' := fun x hx => hb x (List.mem_cons_of_mem _ hx)
    have hd := hb d (by simp)
    have hkd : ∀ m : Nat, kd (keepL (m : Int)) ≠ 3 := fun m => by
      rw [keepL]
      split
      · decide
      · show (1 : Int) ≠ 3; decide
    have hcut : ∀ m : Nat, 0 < m → m ≤ n → chop ⟨1, (n : Int), []⟩ [] m = keepL ((n - m : Nat) : Int) := fun m h0 h1 => by
      rw [chop, sz_not (by show (1 : Int) ≠ 2; decide)]
      show (if m = (n : Int).toNat then [] else [cut ⟨1, (n : Int), []⟩ m]) = _
      rw [keepL]
      by_cases he : m = n
      · rw [if_pos (by omega), if_pos (by omega)]
      · rw [if_neg (by omega), if_neg (by omega), cut, if_neg (by show ¬ (1 : Int) = 2; decide)]
        show [CompV.mk 1 ((n : Int) - m) []] = _
        rw [show ((n - m : Nat) : Int) = (n : Int) - m by omega]
    have hall : chop d b (sz d) = b := if_pos rfl
    rcases hd.cases with ⟨g, gn, gt⟩ | ⟨g, gn, gt⟩ | ⟨g, gn, gt, gv⟩
    · have hs : sz d = d.n.toNat := sz_not (by omega)
      have hin : d.n.toNat + inS b = n := by rw [← h, inS_cons, in_one g]
      have e : keepL (n : Int) = [⟨1, (n : Int), []⟩] := by rw [keepL, if_neg (by omega)]
      have h1 : min (sz ⟨1, (n : Int), []⟩) (sz d) = sz d := by
        rw [sz_not (c := ⟨1, (n : Int), []⟩) (by show (1 : Int) ≠ 2; decide), hs]
        show min (n : Int).toNat _ = _
        omega
      have := Cmp.both ⟨1, (n : Int), []⟩ [] d b b _ (by show (1 : Int) ≠ 3; decide) (by omega) rfl (by
        rw [h1, hall, hcut _ (by omega) (by omega)]
        exact cmp_keep b _ hb' (by omega))
      rw [if_pos g, h1, piece_one rfl] at this
      rw [e]
      have ed : d = ⟨1, (sz d : Int), []⟩ := by
        obtain ⟨dk, dn, dt⟩ := d
        simp only at g gn gt hs
        subst g gt
        rw [hs]
        congr 1
        omega
      rw [← ed] at this
      exact this
    · have hs : sz d = d.n.toNat := sz_not (by omega)
      have hin : d.n.toNat + inS b = n := by rw [← h, inS_cons, in_three g]
      have e : keepL (n : Int) = [⟨1, (n : Int), []⟩] := by rw [keepL, if_neg (by omega)]
      have h1 : min (sz ⟨1, (n : Int), []⟩) (sz d) = sz d := by
        rw [sz_not (c := ⟨1, (n : Int), []⟩) (by show (1 : Int) ≠ 2; decide), hs]
        show min (n : Int).toNat _ = _
        omega
      have := Cmp.both ⟨1, (n : Int), []⟩ [] d b b _ (by show (1 : Int) ≠ 3; decide) (by omega) rfl (by
        rw [h1, hall, hcut _ (by omega) (by omega)]
        exact cmp_keep b _ hb' (by omega))
      rw [if_neg (by omega), if_pos rfl, h1, piece_all hd] at this
      rw [e]
      exact this
    · have hin : inS b = n := by rw [← h, inS_cons, in_two g]; omega
      exact .puts _ d b b (hkd n) g (cmp_keep b n hb' hin)
/-- An edit, then nothing done. -/
theorem cmp_then_keep : ∀ (a : List CompV) (n : Nat), (∀ x ∈ a, Wh x) → outS a = n → Cmp a (keepL (n : Int)) a
  | [], n, _, h => by
    rw [outS_nil] at h
    subst h
    exact .nil
  | c :: a, n, ha, h => by
    have ha' := fun x hx => ha x (List.mem_cons_of_mem _ hx)
    have hc := ha c (by simp)
    have hcut : ∀ m : Nat, 0 < m → m ≤ n → chop ⟨1, (n : Int), []⟩ [] m = keepL ((n - m : Nat) : Int) := fun m h0 h1 => by
      rw [chop, sz_not (by show (1 : Int) ≠ 2; decide)]
      show (if m = (n : Int).toNat then [] else [cut ⟨1, (n : Int), []⟩ m]) = _
      rw [keepL]
      by_cases he : m = n
      · rw [if_pos (by omega), if_pos (by omega)]
      · rw [if_neg (by omega), if_neg (by omega), cut, if_neg (by show ¬ (1 : Int) = 2; decide)]
        show [CompV.mk 1 ((n : Int) - m) []] = _
        rw [show ((n - m : Nat) : Int) = (n : Int) - m by omega]
    have hall : chop c a (sz c) = a := if_pos rfl
    have main : c.kind ≠ 3 → outN c = sz c → Cmp (c :: a) (keepL (n : Int)) (c :: a) := fun hk ho => by
      have hsz := hc.sz
      have hin : sz c + outS a = n := by rw [← h, outS_cons, ho]
      have e : keepL (n : Int) = [⟨1, (n : Int), []⟩] := by rw [keepL, if_neg (by omega)]
      have h1 : min (sz c) (sz ⟨1, (n : Int), []⟩) = sz c := by
        rw [sz_not (c := ⟨1, (n : Int), []⟩) (by show (1 : Int) ≠ 2; decide)]
        show min _ (n : Int).toNat = _
        omega
      have := Cmp.both c a ⟨1, (n : Int), []⟩ [] a _ hk (by show (1 : Int) ≠ 2; decide) rfl (by
        rw [h1, hall, hcut _ hsz (by omega)]
        exact cmp_then_keep a _ ha' (by omega))
      rw [if_pos rfl, h1, piece_all hc] at this
      rw [e]
      exact this
    rcases hc.cases with ⟨g, gn, gt⟩ | ⟨g, gn, gt⟩ | ⟨g, gn, gt, gv⟩
    · exact main (by omega) (by rw [out_one g, sz_not (by omega)])
    · exact .gone c a _ a g (cmp_then_keep a n ha' (by rw [← h, outS_cons, out_three g]; omega))
    · exact main (by omega) (by rw [out_two g, sz_two g])
theorem ok_self {a : List CompV} (h : Ok a) : rNormal a = a :=
  norm_self h.nrm.ch.nm fun y hy => by
    have h1 := in_le_mem hy
    have h2 := h.base1
    rcases (h.wh y hy).cases with ⟨g, gn, _⟩ | ⟨g, gn, _⟩ | ⟨g, gn, _⟩
    · rw [in_one g] at h1; omega
    · rw [in_three g] at h1; omega
    · omega
theorem keep_idle {a : List CompV} (h : Ok a) : rTwo (keepL (rBase a)) a = (a, 0) ∧ rTwo a (keepL (rOut a)) = (a, 0) := by
  have hb1 := h.base1
  have ho1 := h.out1
  have k1 := keep_ok hb1
  have k2 := keep_ok ho1
  rw [h.base, h.out]
  refine ⟨?_, ?_⟩
  · rw [rTwo_yes k1.1.check h.check (by rw [k1.1.out, k1.2.2.1, h.base]) (cmp_keep a _ h.wh rfl), ok_self h]
  · rw [rTwo_yes h.check k2.1.check (by rw [k2.1.base, k2.2.1, h.out]) (cmp_then_keep a _ h.wh rfl), ok_self h]
/-- A row of edits as one. -/
theorem row_is : ∀ (L : List (List CompV)) (K : List CompV), Ok K → (rAll (K, 0) L).2 = 0 →
    (∀ x ∈ L, Ok x) ∧ Ch 0 (rAll (K, 0) L).1 ∧ inS (rAll (K, 0) L).1 = inS K ∧ ∀ vs : List Nat, vs.length = inS K → ed (rAll (K, 0) L).1 vs = L.foldl (fun v x => ed x v) (ed K vs)
  | [], K, hK, _ => by
    rw [rAll_nil]
    exact ⟨fun x hx => (by cases hx), hK.nrm.ch, rfl, fun vs _ => rfl⟩
  | x :: L, K, hK, h => by
    have e : rAll (K, 0) (x :: L) = rAll (rTwo K x) L := by
      rw [rAll_cons, rAllStep, if_neg (by simp)]
    rw [e] at h ⊢
    have h0 : (rTwo K x).2 = 0 := by
      by_cases hh : (rTwo K x).2 = 0
      · exact hh
      · rw [rAll_off hh] at h; exact absurd h hh
    obtain ⟨_, kx, he⟩ := two_no h0
    obtain ⟨d, t1, t2, t3, t4, t5⟩ := two_is hK kx he
    rw [t1] at h ⊢
    cases L with
    | nil =>
      rw [rAll_nil]
      exact ⟨fun y hy => by rw [List.mem_singleton.1 hy]; exact kx, t2, t3, fun vs hv => by rw [t5 vs hv]; rfl⟩
    | cons y L =>
      have hd : Ok d := by
        have e2 : rAll (d, 0) (y :: L) = rAll (rTwo d y) L := by
          rw [rAll_cons, rAllStep, if_neg (by simp)]
        rw [e2] at h
        have h1 : (rTwo d y).2 = 0 := by
          by_cases hh : (rTwo d y).2 = 0
          · exact hh
          · rw [rAll_off hh] at h; exact absurd h hh
        exact (two_no h1).1
      obtain ⟨i1, i2, i3, i4⟩ := row_is (y :: L) d hd h
      refine ⟨fun z hz => ?_, i2, by rw [i3, t3], fun vs hv => ?_⟩
      · rcases List.mem_cons.1 hz with rfl | hz
        · exact kx
        · exact i1 z hz
      · rw [i4 vs (by rw [t3]; exact hv), t5 vs hv]
        rfl
end Go.Proofs.Ytnadhpajelkngaa

/- One edit behind another one, as a function: for the laws of xform. No condition beyond those that each lemma states. -/
namespace Go.Proofs.Ytnadhpajelkngaa

theorem ov_exists (f : Bool) : ∀ (m : Nat) (a b : List CompV), szs a + szs b ≤ m → (∀ x ∈ a, Wh x) → (∀ x ∈ b, Wh x) → inS a = inS b → ∃ o, Ov f a b o := by
  intro m
  induction m with
  | zero =>
    intro a b hm ha hb he
    cases a with
    | cons c a => rw [szs_cons] at hm; omega
    | nil =>
      cases b with
      | cons d b => rw [szs_cons] at hm; omega
      | nil => exact ⟨_, .nil⟩
  | succ m ih =>
    intro a b hm ha hb he
    have passes : ∀ (d : CompV) (b' : List CompV), b = d :: b' → d.kind = 2 → ¬ (kd a = 2 ∧ f = true) → ∃ o, Ov f a b o := by
      intro d b' hbe hk hn
      subst hbe
      obtain ⟨o, ho⟩ := ih a b' (by rw [szs_cons] at hm; omega) ha (fun x hx => hb x (by simp [hx])) (by rw [inS_cons, in_two hk] at he; omega)
      exact ⟨_, .pass a d b' o hn hk ho⟩
    cases a with
    | nil =>
      cases b with
      | nil => exact ⟨_, .nil⟩
      | cons d b =>
        rcases (hb d (by simp)).cases with ⟨g, gn, _⟩ | ⟨g, gn, _⟩ | ⟨g, _⟩
        · rw [inS_nil, inS_cons, in_one g] at he; omega
        · rw [inS_nil, inS_cons, in_three g] at he; omega
        · exact passes d b rfl g (fun h => by have := h.1; revert this; decide)
    | cons c a =>
      have ha' := fun x hx => ha x (List.mem_cons_of_mem _ hx)
      have hc := ha c (by simp)
      by_cases hk : c.kind = 2
      · by_cases hf : f = true ∨ kd b ≠ 2
        · obtain ⟨o, ho⟩ := ih a b (by rw [szs_cons] at hm; omega) ha' hb (by rw [inS_cons, in_two hk] at he; omega)
          exact ⟨_, .puts c a b o hk hf ho⟩
        · obtain ⟨hf1, hf2⟩ := not_or.1 hf
          have hkb : kd b = 2 := Classical.not_not.1 hf2
          cases b with
          | nil => exact absurd hkb (by decide)
          | cons d b => exact passes d b rfl hkb (fun h => hf1 h.2)
      · cases b with
        | nil =>
          rw [inS_cons, inS_nil] at he
          rcases hc.cases with ⟨g, gn, _⟩ | ⟨g, gn, _⟩ | ⟨g, _⟩
          · rw [in_one g] at he; omega
          · rw [in_three g] at he; omega
          · exact absurd g hk
        | cons d b =>
          have hb' := fun x hx => hb x (List.mem_cons_of_mem _ hx)
          have hd := hb d (by simp)
          by_cases hk2 : d.kind = 2
          · exact passes d b rfl hk2 (fun h => hk h.1)
          · have hx := chopped (a := a) (b := b) hk hk2 rfl ha hb
            have s1 := szs_chop hc a hx.pos (Nat.min_le_left _ _)
            have s2 := szs_chop hd b hx.pos (Nat.min_le_right _ _)
            obtain ⟨o, ho⟩ := ih _ _ (by omega) hx.wa hx.wb (by have := hx.ia; have := hx.ib; omega)
            exact ⟨_, .both c a d b o _ hk hk2 rfl ho⟩
/-- An edit behind another one of the same text. -/
structure OverIs (f : Bool) (a b d : List CompV) : Prop where
  over : rOver f a b = (d, 0)
  ch : Ch 0 d
  ins : inS d = outS b
  raw : ∃ o, Ov f a b o ∧ d = rNormal o ∧ ∀ vs, ed d vs = ed o vs
theorem over_is (f : Bool) {a b : List CompV} (ha : Ok a) (hb : Ok b) (he : inS a = inS b) : ∃ d, OverIs f a b d := by
  obtain ⟨o, ho⟩ := ov_exists f _ a b (Nat.le_refl _) ha.wh hb.wh he
  obtain ⟨h1, h2⟩ := ho.wh ha.wh hb.wh he
  have hi := hb.out1
  have hn := norm_ed h1 (by rw [h2]; omega)
  exact ⟨rNormal o, rOver_yes ha.check hb.check (by rw [ha.base, hb.base, he]) ho, hn.ch, by rw [hn.ins, h2], o, ho, rfl, hn.ed⟩
theorem OverIs.meets {f : Bool} {a b p q : List CompV} (h : OverIs f a b p) (k : OverIs (!f) b a q) (ha : Ok a) (hb : Ok b) (he : inS a = inS b) : ∀ vs : List Nat, vs.length = inS a → ed p (ed b vs) = ed q (ed a vs) := by
  obtain ⟨o, ho, _, h1⟩ := h.raw
  obtain ⟨r, hr, _, h2⟩ := k.raw
  intro vs hv
  rw [h1, h2, ho.meets hr ha.wh hb.wh he vs hv]
theorem over_no {f : Bool} {a b : List CompV} (h : (rOver f a b).2 = 0) : Ok a ∧ Ok b ∧ inS a = inS b := by
  unfold rOver at h
  by_cases h1 : rCheck a = 0
  · rw [if_neg (by simp [h1])] at h
    by_cases h2 : rCheck b = 0
    · rw [if_neg (by simp [h2])] at h
      by_cases h3 : rBase a = rBase b
      · have ka := ok_of h1
        have kb := ok_of h2
        have e1 := ka.base
        have e2 := kb.base
        exact ⟨ka, kb, by omega⟩
      · rw [if_pos h3] at h; cases h
    · rw [if_pos h2] at h; exact absurd h h2
  · rw [if_pos h1] at h; exact absurd h h1
/-- One edit behind a row of them. -/
noncomputable def rManyStep (f : Bool) (s : List CompV × Nat) (x : List CompV) : List CompV × Nat := if s.2 ≠ 0 then s else rOver f s.1 x
noncomputable def rMany (f : Bool) (s : List CompV × Nat) (l : List (List CompV)) : List CompV × Nat := l.foldl (rManyStep f) s
theorem rMany_nil (f : Bool) (s : List CompV × Nat) : rMany f s [] = s := rfl
theorem rMany_cons (f : Bool) (s : List CompV × Nat) (x : List CompV) (l : List (List CompV)) : rMany f s (x :: l) = rMany f (rManyStep f s x) l := rfl
theorem rMany_snoc (f : Bool) (s : List CompV × Nat) (l : List (List CompV)) (x : List CompV) : rMany f s (l ++ [x]) = rManyStep f (rMany f s l) x := by rw [rMany, List.foldl_append]; rfl
theorem rMany_off (f : Bool) {s : List CompV × Nat} (h : s.2 ≠ 0) : ∀ l, rMany f s l = s
  | [] => rfl
  | x :: l => by
    rw [rMany_cons, rManyStep, if_pos h]
    exact rMany_off f h l
theorem rMany_append (f : Bool) (s : List CompV × Nat) (a b : List (List CompV)) : rMany f s (a ++ b) = rMany f (rMany f s a) b := by unfold rMany; rw [List.foldl_append]
attribute [irreducible] rMany
end Go.Proofs.Ytnadhpajelkngaa
