/- ApplyKeeps holds: each character that an edit keeps stands there once, in its order; each that it puts in, too; those that it deletes are gone: whatever the law is called with: it answers true and changes nothing. No condition. (Merged of 6 texts.) -/
import Derived.Test.YtfbkdabnbddgpaaKEdit
import Derived.Test.YtfbkdabnbddgpaaKRef
import Derived.Test.YtfbkdabnbddgpaaKAwk
import Derived.Test.YtfbkdabnbddgpaaKDm
import Derived.Test.YtfbkdabnbddgpaaRefText
import Derived.ChangeMaps5
/- One edit, then another one, as one: part by part, in plain mathematics. No condition. -/
namespace Go.Proofs.Ytfbkdabnbddgpaa

/-- How much of a part there is; what is left of it; a piece of it. -/
noncomputable def sz (c : CompV) : Nat := if c.kind = 2 then (cps c.text).length else c.n.toNat
noncomputable def cut (c : CompV) (n : Nat) : CompV := if c.kind = 2 then ⟨2, 0, E ((cps c.text).drop n)⟩ else ⟨c.kind, c.n - n, []⟩
noncomputable def piece (c : CompV) (k : Nat) : CompV := if c.kind = 2 then ⟨2, 0, E ((cps c.text).take k)⟩ else ⟨c.kind, k, []⟩
noncomputable def chop (c : CompV) (l : List CompV) (n : Nat) : List CompV := if n = sz c then l else cut c n :: l
theorem sz_two {c : CompV} (h : c.kind = 2) : sz c = (cps c.text).length := if_pos h
theorem sz_not {c : CompV} (h : c.kind ≠ 2) : sz c = c.n.toNat := if_neg h
theorem Wh.sz {c : CompV} (h : Wh c) : 0 < sz c := by
  rcases h.cases with ⟨g, gn, _⟩ | ⟨g, gn, _⟩ | ⟨g, _, gt, gv⟩
  · rw [sz_not (by omega)]; omega
  · rw [sz_not (by omega)]; omega
  · rw [sz_two g]; exact cps_ne gv gt
theorem cut_kind (c : CompV) (n : Nat) : (cut c n).kind = c.kind := by unfold cut; split <;> simp_all
theorem piece_kind (c : CompV) (n : Nat) : (piece c n).kind = c.kind := by unfold piece; split <;> simp_all
theorem may_drop {t : List Nat} (h : ∃ vs, V t vs) (n : Nat) : ∀ v ∈ (cps t).drop n, May v := fun v hv => (cps_V h).may v (List.mem_of_mem_drop hv)
theorem may_take {t : List Nat} (h : ∃ vs, V t vs) (n : Nat) : ∀ v ∈ (cps t).take n, May v := fun v hv => (cps_V h).may v (List.mem_of_mem_take hv)
theorem E_ne {vs : List Nat} (h : 0 < vs.length) : E vs ≠ [] := fun e => by
  have := E_length_le vs
  rw [e] at this
  have : vs.length ≤ 0 := this
  omega
theorem cut_wh {c : CompV} (h : Wh c) {n : Nat} (hn : n < sz c) : Wh (cut c n) ∧ sz (cut c n) = sz c - n := by
  rcases h.cases with ⟨g, gn, gt⟩ | ⟨g, gn, gt⟩ | ⟨g, gn, gt, gv⟩
  · rw [sz_not (c := c) (by omega)] at hn ⊢
    have e : cut c n = ⟨c.kind, c.n - n, []⟩ := if_neg (by omega)
    rw [e]
    exact ⟨.inl ⟨.inl g, by show 1 ≤ c.n - n; omega, rfl⟩, by rw [sz_not (by show c.kind ≠ 2; omega)]; show (c.n - n).toNat = _; omega⟩
  · rw [sz_not (c := c) (by omega)] at hn ⊢
    have e : cut c n = ⟨c.kind, c.n - n, []⟩ := if_neg (by omega)
    rw [e]
    exact ⟨.inl ⟨.inr g, by show 1 ≤ c.n - n; omega, rfl⟩, by rw [sz_not (by show c.kind ≠ 2; omega)]; show (c.n - n).toNat = _; omega⟩
  · rw [sz_two (c := c) g] at hn ⊢
    have e : cut c n = ⟨2, 0, E ((cps c.text).drop n)⟩ := if_pos g
    rw [e]
    refine ⟨.inr ⟨rfl, rfl, E_ne (by rw [List.length_drop]; omega), _, V.mk (may_drop gv n)⟩, ?_⟩
    rw [sz_two rfl]
    show (cps (E _)).length = _
    rw [cps_E (may_drop gv n), List.length_drop]
theorem piece_wh {c : CompV} (h : Wh c) {n : Nat} (h0 : 0 < n) (hn : n ≤ sz c) : Wh (piece c n) ∧ sz (piece c n) = n := by
  rcases h.cases with ⟨g, gn, gt⟩ | ⟨g, gn, gt⟩ | ⟨g, gn, gt, gv⟩
  · have e : piece c n = ⟨c.kind, n, []⟩ := if_neg (by omega)
    rw [e]
    exact ⟨.inl ⟨.inl g, by show (1 : Int) ≤ n; omega, rfl⟩, by rw [sz_not (by show c.kind ≠ 2; omega)]; rfl⟩
  · have e : piece c n = ⟨c.kind, n, []⟩ := if_neg (by omega)
    rw [e]
    exact ⟨.inl ⟨.inr g, by show (1 : Int) ≤ n; omega, rfl⟩, by rw [sz_not (by show c.kind ≠ 2; omega)]; rfl⟩
  · rw [sz_two g] at hn
    have e : piece c n = ⟨2, 0, E ((cps c.text).take n)⟩ := if_pos g
    rw [e]
    refine ⟨.inr ⟨rfl, rfl, E_ne (by rw [List.length_take]; omega), _, V.mk (may_take gv n)⟩, ?_⟩
    rw [sz_two rfl]
    show (cps (E _)).length = _
    rw [cps_E (may_take gv n), List.length_take]
    omega
theorem cut_zero {c : CompV} (h : Wh c) : cut c 0 = c := by
  obtain ⟨a, b, t⟩ := c
  rcases h.cases with ⟨g, gn, gt⟩ | ⟨g, gn, gt⟩ | ⟨g, gn, gt, gv⟩
  · simp only at g gt
    subst g gt
    show CompV.mk 1 (b - (0 : Nat)) [] = _
    rw [show b - ((0 : Nat) : Int) = b by omega]
  · simp only at g gt
    subst g gt
    show CompV.mk 3 (b - (0 : Nat)) [] = _
    rw [show b - ((0 : Nat) : Int) = b by omega]
  · simp only at g gn gv
    subst g gn
    show CompV.mk 2 0 (E ((cps t).drop 0)) = _
    rw [List.drop_zero, (cps_V gv).bytes]
theorem piece_all {c : CompV} (h : Wh c) : piece c (sz c) = c := by
  obtain ⟨a, b, t⟩ := c
  rcases h.cases with ⟨g, gn, gt⟩ | ⟨g, gn, gt⟩ | ⟨g, gn, gt, gv⟩
  · simp only at g gt gn
    subst g gt
    show CompV.mk 1 ((b.toNat : Nat) : Int) [] = _
    rw [show (b.toNat : Int) = b by omega]
  · simp only at g gt gn
    subst g gt
    show CompV.mk 3 ((b.toNat : Nat) : Int) [] = _
    rw [show (b.toNat : Int) = b by omega]
  · simp only at g gn gv
    subst g gn
    show CompV.mk 2 0 (E ((cps t).take (cps t).length)) = _
    rw [List.take_length, (cps_V gv).bytes]
theorem cut_cut {c : CompV} (h : Wh c) (n m : Nat) : cut (cut c n) m = cut c (n + m) := by
  rcases h.cases with ⟨g, gn, gt⟩ | ⟨g, gn, gt⟩ | ⟨g, gn, gt, gv⟩
  · have e : ∀ n, cut c n = ⟨c.kind, c.n - n, []⟩ := fun n => if_neg (by omega)
    rw [cut, if_neg (by rw [cut_kind]; omega), e, e]
    show CompV.mk c.kind (c.n - n - m) [] = _
    rw [show c.n - n - m = c.n - ((n + m : Nat) : Int) by omega]
  · have e : ∀ n, cut c n = ⟨c.kind, c.n - n, []⟩ := fun n => if_neg (by omega)
    rw [cut, if_neg (by rw [cut_kind]; omega), e, e]
    show CompV.mk c.kind (c.n - n - m) [] = _
    rw [show c.n - n - m = c.n - ((n + m : Nat) : Int) by omega]
  · have e : ∀ n, cut c n = ⟨2, 0, E ((cps c.text).drop n)⟩ := fun n => if_pos g
    rw [cut, if_pos (by rw [cut_kind]; exact g), e, e]
    show CompV.mk 2 0 (E ((cps (E ((cps c.text).drop n))).drop m)) = _
    rw [cps_E (may_drop gv n), List.drop_drop]
theorem piece_cut {c : CompV} (h : Wh c) (n k : Nat) : piece (cut c n) k = if c.kind = 2 then ⟨2, 0, E (((cps c.text).take (n + k)).drop n)⟩ else ⟨c.kind, k, []⟩ := by
  rcases h.cases with ⟨g, gn, gt⟩ | ⟨g, gn, gt⟩ | ⟨g, gn, gt, gv⟩
  · rw [piece, if_neg (by rw [cut_kind]; omega), cut_kind, if_neg (by omega)]
  · rw [piece, if_neg (by rw [cut_kind]; omega), cut_kind, if_neg (by omega)]
  · rw [piece, if_pos (by rw [cut_kind]; exact g), if_pos g, cut, if_pos g]
    simp only
    rw [cps_E (may_drop gv n), List.drop_take, show n + k - n = k by omega]
/-- A part, chopped, does what it did. -/
theorem chop_ed {c : CompV} (h : Wh c) (l : List CompV) {n : Nat} (h0 : 0 < n) (hn : n ≤ sz c) :
    (∀ vs, ed (c :: l) vs = ed (piece c n :: chop c l n) vs) ∧ inS (c :: l) = inN (piece c n) + inS (chop c l n) ∧ outS (c :: l) = outN (piece c n) + outS (chop c l n) ∧ ((∀ x ∈ l, Wh x) → ∀ x ∈ chop c l n, Wh x) := by
  have hp := (piece_wh h h0 hn)
  by_cases he : n = sz c
  · have e : chop c l n = l := if_pos he
    rw [e, he, piece_all h, inS_cons, outS_cons]
    exact ⟨fun _ => rfl, rfl, rfl, fun h => h⟩
  · have hlt : n < sz c := by omega
    have hc := cut_wh h hlt
    have e : chop c l n = cut c n :: l := if_neg he
    rw [e, inS_cons, inS_cons, outS_cons, outS_cons]
    have hk := cut_kind c n
    have hq := piece_kind c n
    have hw : (∀ x ∈ l, Wh x) → ∀ x ∈ cut c n :: l, Wh x := fun h x hx => by
      rcases List.mem_cons.1 hx with rfl | hx
      · exact hc.1
      · exact h x hx
    rcases h.cases with ⟨g, gn, gt⟩ | ⟨g, gn, gt⟩ | ⟨g, gn, gt, gv⟩
    · rw [g] at hk hq
      have e1 : (cut c n).n = c.n - n := by rw [cut, if_neg (by omega)]
      have e2 : (piece c n).n = n := by rw [piece, if_neg (by omega)]
      rw [sz_not (by omega)] at hlt
      rw [in_one g, in_one hk, in_one hq, out_one g, out_one hk, out_one hq, e1, e2]
      refine ⟨fun vs => ?_, by omega, by omega, hw⟩
      rw [ed_one g, ed_one hq, ed_one hk, e1, e2, ← List.append_assoc, List.drop_drop, Int.toNat_natCast, ← List.take_add, show n + (c.n - n).toNat = c.n.toNat by omega]
    · rw [g] at hk hq
      have e1 : (cut c n).n = c.n - n := by rw [cut, if_neg (by omega)]
      have e2 : (piece c n).n = n := by rw [piece, if_neg (by omega)]
      rw [sz_not (by omega)] at hlt
      rw [in_three g, in_three hk, in_three hq, out_three g, out_three hk, out_three hq, e1, e2]
      refine ⟨fun vs => ?_, by omega, by omega, hw⟩
      rw [ed_three g, ed_three hq, ed_three hk, e1, e2, List.drop_drop, Int.toNat_natCast, show n + (c.n - n).toNat = c.n.toNat by omega]
    · rw [g] at hk hq
      have e1 : (cut c n).text = E ((cps c.text).drop n) := by rw [cut, if_pos g]
      have e2 : (piece c n).text = E ((cps c.text).take n) := by rw [piece, if_pos g]
      rw [sz_two g] at hlt
      rw [in_two g, in_two hk, in_two hq, out_two g, out_two hk, out_two hq, e1, e2, cps_E (may_drop gv n), cps_E (may_take gv n), List.length_drop, List.length_take]
      refine ⟨fun vs => ?_, by omega, by omega, hw⟩
      rw [ed_two g, ed_two hq, ed_two hk, e1, e2, cps_E (may_drop gv n), cps_E (may_take gv n), ← List.append_assoc, List.take_append_drop]
/-- The kind of the part that is next; 0: none is. -/
def kd : List CompV → Int
  | [] => 0
  | c :: _ => c.kind
/-- One edit, then another one, part by part. -/
inductive Cmp : List CompV → List CompV → List CompV → Prop
  | nil : Cmp [] [] []
  | gone (c : CompV) (a b o : List CompV) : c.kind = 3 → Cmp a b o → Cmp (c :: a) b (c :: o)
  | puts (a : List CompV) (d : CompV) (b o : List CompV) : kd a ≠ 3 → d.kind = 2 → Cmp a b o → Cmp a (d :: b) (d :: o)
  | both (c : CompV) (a : List CompV) (d : CompV) (b o : List CompV) (n : Nat) : c.kind ≠ 3 → d.kind ≠ 2 → n = min (sz c) (sz d) → Cmp (chop c a n) (chop d b n) o →
      Cmp (c :: a) (d :: b) ((if d.kind = 1 then [piece c n] else if c.kind = 1 then [piece d n] else []) ++ o)
/-- What one edit, then another one, do. -/
structure CmpEd (a b o : List CompV) : Prop where
  wh : ∀ x ∈ o, Wh x
  ins : inS o = inS a
  outs : outS o = outS b
  ed : ∀ vs, vs.length = inS a → ed o vs = ed b (ed a vs)
theorem wh_cons {c : CompV} {l : List CompV} (h1 : Wh c) (h2 : ∀ x ∈ l, Wh x) : ∀ x ∈ c :: l, Wh x := fun x hx => by
  rcases List.mem_cons.1 hx with rfl | hx
  · exact h1
  · exact h2 x hx
theorem Cmp.ed {a b o : List CompV} (h : Cmp a b o) : (∀ x ∈ a, Wh x) → (∀ x ∈ b, Wh x) → outS a = inS b → CmpEd a b o := by
  induction h with
  | nil => exact fun _ _ _ => ⟨fun x hx => (by cases hx), rfl, rfl, fun vs _ => by rw [ed_nil, ed_nil]⟩
  | gone c a b o hk _ ih =>
    intro ha hb hn
    rw [outS_cons, out_three hk, Nat.zero_add] at hn
    have i := ih (fun x hx => ha x (List.mem_cons_of_mem _ hx)) hb hn
    refine ⟨wh_cons (ha c (by simp)) i.wh, by rw [inS_cons, inS_cons, i.ins], by rw [outS_cons, out_three hk, i.outs, Nat.zero_add], fun vs hv => ?_⟩
    rw [inS_cons, in_three hk] at hv
    rw [ed_three hk, ed_three hk, i.ed _ (by rw [List.length_drop]; omega)]
  | puts a d b o _ hk _ ih =>
    intro ha hb hn
    rw [inS_cons, in_two hk, Nat.zero_add] at hn
    have i := ih ha (fun x hx => hb x (List.mem_cons_of_mem _ hx)) hn
    refine ⟨wh_cons (hb d (by simp)) i.wh, by rw [inS_cons, in_two hk, i.ins, Nat.zero_add], by rw [outS_cons, outS_cons, i.outs], fun vs hv => ?_⟩
    rw [ed_two hk, ed_two hk, i.ed _ hv]
  | both c a d b o n h3 h2 hmin _ ih =>
    intro ha hb hn
    have wc := ha c (by simp)
    have wd := hb d (by simp)
    have hc0 := wc.sz; have hd0 := wd.sz
    obtain ⟨c1, c2, c3, c4⟩ := chop_ed wc a (n := n) (by omega) (by omega)
    obtain ⟨d1, d2, d3, d4⟩ := chop_ed wd b (n := n) (by omega) (by omega)
    have pc := piece_wh wc (n := n) (by omega) (by omega)
    have pd := piece_wh wd (n := n) (by omega) (by omega)
    have kc := piece_kind c n
    have kdd := piece_kind d n
    generalize piece c n = p at *
    generalize piece d n = q at *
    rw [c3, d2] at hn
    have ha' := c4 fun x hx => ha x (List.mem_cons_of_mem _ hx)
    have hb' := d4 fun x hx => hb x (List.mem_cons_of_mem _ hx)
    have hq : q.kind = 1 ∨ q.kind = 3 := by
      rcases pd.1.cases with g | g | g <;> omega
    have hp : p.kind = 1 ∨ p.kind = 2 := by
      rcases pc.1.cases with g | g | g <;> omega
    have sp := pc.2
    have sq := pd.2
    have hqn : q.n.toNat = n := by rw [sz_not (by omega)] at sq; exact sq
    have eq1 : inN q = n := by rw [inN, if_neg (by omega)]; exact hqn
    have ep1 : outN p = n := by
      rcases hp with g | g
      · rw [out_one g, ← sp, sz_not (by omega)]
      · rw [out_two g, ← sp, sz_two g]
    rw [ep1, eq1] at hn
    have i := ih ha' hb' (by omega)
    have hin := i.ins; have hout := i.outs; have hed := i.ed; have hwo := i.wh
    rw [← kc, ← kdd]
    have e1 : inS (c :: a) = inN p + inS (chop c a n) := c2
    have e2 : outS (d :: b) = outN q + outS (chop d b n) := d3
    rcases hq with gq | gq
    · rw [if_pos gq, List.singleton_append]
      refine ⟨wh_cons pc.1 hwo, by rw [inS_cons, hin, e1], by rw [outS_cons, hout, e2, ep1, out_one gq, hqn], fun vs hv => ?_⟩
      rw [e1] at hv
      rw [c1, d1, ed_one gq]
      rcases hp with gp | gp
      · have hpn : p.n.toNat = n := by rw [sz_not (by omega)] at sp; exact sp
        rw [in_one gp, hpn] at hv
        have hl : (vs.take n).length = n := by rw [List.length_take]; omega
        rw [ed_one gp, ed_one gp, hpn, hqn, List.take_left' hl, List.drop_left' hl, hed _ (by rw [List.length_drop]; omega)]
      · have hpn : (cps p.text).length = n := by rw [sz_two gp] at sp; exact sp
        rw [in_two gp] at hv
        rw [ed_two gp, ed_two gp, hqn, List.take_left' hpn, List.drop_left' hpn, hed _ (by omega)]
    · rw [if_neg (by omega)]
      rcases hp with gp | gp
      · have hpn : p.n.toNat = n := by rw [sz_not (by omega)] at sp; exact sp
        rw [if_pos gp, List.singleton_append]
        refine ⟨wh_cons pd.1 hwo, by rw [inS_cons, hin, e1, eq1, in_one gp, hpn], by rw [outS_cons, hout, e2], fun vs hv => ?_⟩
        rw [e1, in_one gp, hpn] at hv
        have hl : (vs.take n).length = n := by rw [List.length_take]; omega
        rw [c1, d1, ed_three gq, ed_three gq, ed_one gp, hpn, hqn, List.drop_left' hl, hed _ (by rw [List.length_drop]; omega)]
      · have hpn : (cps p.text).length = n := by rw [sz_two gp] at sp; exact sp
        rw [if_neg (by omega), List.nil_append]
        refine ⟨hwo, by rw [hin, e1, in_two gp, Nat.zero_add], by rw [hout, e2, out_three gq, Nat.zero_add], fun vs hv => ?_⟩
        rw [e1, in_two gp] at hv
        rw [c1, d1, ed_three gq, ed_two gp, hqn, List.drop_left' hpn, hed _ (by omega)]
theorem Cmp.one {a b o : List CompV} (h : Cmp a b o) : ∀ {o' : List CompV}, Cmp a b o' → o = o' := by
  induction h with
  | nil => intro o' h'; cases h'; rfl
  | gone c a b o hk _ ih =>
    intro o' h'
    cases h' with
    | gone _ _ _ o2 _ g => rw [ih g]
    | puts _ _ _ _ g => exact absurd hk g
    | both _ _ _ _ _ _ g => exact absurd hk g
  | puts a d b o h3 hk _ ih =>
    intro o' h'
    cases h' with
    | gone _ _ _ o2 g => exact absurd g h3
    | puts _ _ _ _ _ _ g => rw [ih g]
    | both _ _ _ _ _ _ _ g => exact absurd hk g
  | both c a d b o n h3 h2 hmin _ ih =>
    intro o' h'
    cases h' with
    | gone _ _ _ o2 g => exact absurd g h3
    | puts _ _ _ _ _ g => exact absurd g h2
    | both _ _ _ _ _ m _ _ hm g => subst hmin; subst hm; rw [ih g]
end Go.Proofs.Ytfbkdabnbddgpaa

/- One edit behind another one, part by part, in plain mathematics: in either order they make one text. No condition. -/
namespace Go.Proofs.Ytfbkdabnbddgpaa

/-- One edit behind another one of the same text, part by part. -/
inductive Ov (f : Bool) : List CompV → List CompV → List CompV → Prop
  | nil : Ov f [] [] []
  | puts (c : CompV) (a b o : List CompV) : c.kind = 2 → (f = true ∨ kd b ≠ 2) → Ov f a b o → Ov f (c :: a) b (c :: o)
  | pass (a : List CompV) (d : CompV) (b o : List CompV) : ¬ (kd a = 2 ∧ f = true) → d.kind = 2 → Ov f a b o → Ov f a (d :: b) (⟨1, (sz d : Int), []⟩ :: o)
  | both (c : CompV) (a : List CompV) (d : CompV) (b o : List CompV) (n : Nat) : c.kind ≠ 2 → d.kind ≠ 2 → n = min (sz c) (sz d) → Ov f (chop c a n) (chop d b n) o →
      Ov f (c :: a) (d :: b) ((if d.kind = 1 then [piece c n] else []) ++ o)
theorem keep_wh {n : Nat} (h : 0 < n) : Wh ⟨1, (n : Int), []⟩ := .inl ⟨.inl rfl, by show (1 : Int) ≤ n; omega, rfl⟩
/-- What is so of two parts chopped alike. -/
structure Chopped (c d p q : CompV) (a b a' b' : List CompV) (n : Nat) : Prop where
  pos : 0 < n
  ea : ∀ vs, ed (c :: a) vs = ed (p :: a') vs
  eb : ∀ vs, ed (d :: b) vs = ed (q :: b') vs
  ia : inS (c :: a) = n + inS a'
  ib : inS (d :: b) = n + inS b'
  oa : outS (c :: a) = outN p + outS a'
  ob : outS (d :: b) = outN q + outS b'
  wa : ∀ x ∈ a', Wh x
  wb : ∀ x ∈ b', Wh x
  wp : Wh p
  wq : Wh q
  kp : p.kind = c.kind
  kq : q.kind = d.kind
  np : p.n.toNat = n
  nq : q.n.toNat = n
theorem chopped {c d : CompV} {a b : List CompV} {n : Nat} (hc2 : c.kind ≠ 2) (hd2 : d.kind ≠ 2) (hn : n = min (sz c) (sz d)) (ha : ∀ x ∈ c :: a, Wh x) (hb : ∀ x ∈ d :: b, Wh x) :
    Chopped c d (piece c n) (piece d n) a b (chop c a n) (chop d b n) n := by
  have wc := ha c (by simp)
  have wd := hb d (by simp)
  have hc0 := wc.sz; have hd0 := wd.sz
  obtain ⟨c1, c2, c3, c4⟩ := chop_ed wc a (n := n) (by omega) (by omega)
  obtain ⟨d1, d2, d3, d4⟩ := chop_ed wd b (n := n) (by omega) (by omega)
  have pc := piece_wh wc (n := n) (by omega) (by omega)
  have pd := piece_wh wd (n := n) (by omega) (by omega)
  have kc := piece_kind c n
  have kq := piece_kind d n
  have np : (piece c n).n.toNat = n := by have := pc.2; rwa [sz_not (by omega)] at this
  have nq : (piece d n).n.toNat = n := by have := pd.2; rwa [sz_not (by omega)] at this
  have ip : inN (piece c n) = n := by rw [inN, if_neg (by omega), np]
  have iq : inN (piece d n) = n := by rw [inN, if_neg (by omega), nq]
  rw [ip] at c2
  rw [iq] at d2
  exact ⟨by omega, c1, d1, c2, d2, c3, d3, c4 fun x hx => ha x (List.mem_cons_of_mem _ hx), d4 fun x hx => hb x (List.mem_cons_of_mem _ hx), pc.1, pd.1, kc, kq, np, nq⟩
theorem Wh.kind13 {c : CompV} (h : Wh c) (h2 : c.kind ≠ 2) : c.kind = 1 ∨ c.kind = 3 := by
  rcases h.cases with g | g | g <;> omega
theorem Ov.wh {f : Bool} {a b o : List CompV} (h : Ov f a b o) : (∀ x ∈ a, Wh x) → (∀ x ∈ b, Wh x) → inS a = inS b → (∀ x ∈ o, Wh x) ∧ inS o = outS b := by
  induction h with
  | nil => exact fun _ _ _ => ⟨fun x hx => (by cases hx), by rw [inS_nil, outS_nil]⟩
  | puts c a b o hk _ _ ih =>
    intro ha hb hn
    rw [inS_cons, in_two hk, Nat.zero_add] at hn
    have i := ih (fun x hx => ha x (List.mem_cons_of_mem _ hx)) hb hn
    exact ⟨wh_cons (ha c (by simp)) i.1, by rw [inS_cons, in_two hk, i.2, Nat.zero_add]⟩
  | pass a d b o _ hk _ ih =>
    intro ha hb hn
    rw [inS_cons, in_two hk, Nat.zero_add] at hn
    have i := ih ha (fun x hx => hb x (List.mem_cons_of_mem _ hx)) hn
    exact ⟨wh_cons (keep_wh (hb d (by simp)).sz) i.1, by rw [inS_cons, in_one rfl, i.2, outS_cons, out_two hk, ← sz_two hk]; rfl⟩
  | both c a d b o n h1 h2 hmin _ ih =>
    intro ha hb hn
    have k := chopped (a := a) (b := b) h1 h2 hmin ha hb
    have hia := k.ia; have hib := k.ib
    have i := ih k.wa k.wb (by omega)
    have hob := k.ob
    by_cases hd : d.kind = 1
    · rw [if_pos hd, List.singleton_append]
      have e1 : outN (piece d n) = n := by rw [out_one (by rw [k.kq]; exact hd), k.nq]
      exact ⟨wh_cons k.wp i.1, by rw [inS_cons, i.2, hob, e1, inN, if_neg (by rw [k.kp]; exact h1), k.np]⟩
    · rw [if_neg hd, List.nil_append]
      have hd3 : d.kind = 3 := by rcases (hb d (by simp)).kind13 h2 with g | g <;> omega
      have e1 : outN (piece d n) = 0 := out_three (by rw [k.kq]; exact hd3)
      exact ⟨i.1, by rw [i.2, hob, e1, Nat.zero_add]⟩
theorem Ov.meets {f : Bool} {a b p : List CompV} (h : Ov f a b p) : ∀ {q : List CompV}, Ov (!f) b a q → (∀ x ∈ a, Wh x) → (∀ x ∈ b, Wh x) → inS a = inS b → ∀ vs : List Nat, vs.length = inS a → ed p (ed b vs) = ed q (ed a vs) := by
  induction h with
  | nil =>
    intro q hq _ _ _ vs _
    cases hq
    rfl
  | puts c a b o hk hf _ ih =>
    intro q hq ha hb hn vs hv
    rw [inS_cons, in_two hk, Nat.zero_add] at hn hv
    have ha' := fun x hx => ha x (List.mem_cons_of_mem _ hx)
    have hz : (cps c.text).length = sz c := (sz_two hk).symm
    cases hq with
    | puts d _ _ _ g gf _ =>
      exfalso
      rcases gf with gf | gf
      · rcases hf with hf | hf
        · rw [hf] at gf; cases gf
        · exact hf g
      · exact gf hk
    | pass _ _ _ o2 g g2 hq =>
      rw [ed_two hk, ed_two hk, ed_one rfl]
      simp only [Int.toNat_natCast]
      rw [← hz, List.take_left' rfl, List.drop_left' rfl, ih hq ha' hb hn vs hv]
    | both _ _ _ _ _ _ _ g => exact absurd hk g
  | pass a d b o hf hk _ ih =>
    intro q hq ha hb hn vs hv
    rw [inS_cons, in_two hk, Nat.zero_add] at hn
    have hb' := fun x hx => hb x (List.mem_cons_of_mem _ hx)
    have hz : (cps d.text).length = sz d := (sz_two hk).symm
    cases hq with
    | puts _ _ _ o2 g gf hq =>
      rw [ed_two hk, ed_two hk, ed_one rfl]
      simp only [Int.toNat_natCast]
      rw [← hz, List.take_left' rfl, List.drop_left' rfl, ih hq ha hb' hn vs hv]
    | pass _ c _ _ g g2 _ =>
      exfalso
      have : ¬ (f = true) := fun e => hf ⟨g2, e⟩
      refine g ⟨hk, ?_⟩
      cases f
      · rfl
      · exact absurd rfl this
    | both _ _ _ _ _ _ g => exact absurd hk g
  | both c a d b o n h1 h2 hmin _ ih =>
    intro q hq ha hb hn vs hv
    have k := chopped (a := a) (b := b) h1 h2 hmin ha hb
    have hia := k.ia; have hib := k.ib; have hnp := k.np; have hnq := k.nq; have hkp := k.kp; have hkq := k.kq; have h0 := k.pos
    have hc13 := (ha c (by simp)).kind13 h1
    have hd13 := (hb d (by simp)).kind13 h2
    cases hq with
    | puts _ _ _ _ g => exact absurd g h2
    | pass _ _ _ _ _ g => exact absurd g h1
    | both _ _ _ _ o2 m _ _ hm hq =>
      have hmn : m = n := by omega
      subst hmn
      have e := fun vs hv => ih hq k.wa k.wb (by omega) vs hv
      rw [k.ea, k.eb]
      have hl : (vs.take m).length = m := by rw [List.length_take]; omega
      have e' := e (vs.drop m) (by rw [List.length_drop]; omega)
      generalize piece c m = p at *
      generalize piece d m = q at *
      rcases hc13 with gc | gc <;> rcases hd13 with gd | gd
      · rw [if_pos gd, if_pos gc, List.singleton_append, List.singleton_append, ed_one (hkp.trans gc), ed_one (hkq.trans gd), ed_one (hkp.trans gc), ed_one (hkq.trans gd), hnp, hnq, List.take_left' hl, List.drop_left' hl, List.take_left' hl, List.drop_left' hl, e']
      · rw [if_neg (by omega), if_pos gc, List.nil_append, List.singleton_append, ed_three (hkq.trans gd), ed_one (hkp.trans gc), ed_three (hkq.trans gd), hnp, hnq, List.drop_left' hl, e']
      · rw [if_pos gd, if_neg (by omega), List.nil_append, List.singleton_append, ed_three (hkp.trans gc), ed_one (hkq.trans gd), ed_three (hkp.trans gc), hnp, hnq, List.drop_left' hl, e']
      · rw [if_neg (by omega), if_neg (by omega), List.nil_append, List.nil_append, ed_three (hkp.trans gc), ed_three (hkq.trans gd), hnp, hnq, e']
theorem Ov.one {f : Bool} {a b o : List CompV} (h : Ov f a b o) : ∀ {o' : List CompV}, Ov f a b o' → o = o' := by
  induction h with
  | nil => intro o' h'; cases h'; rfl
  | puts c a b o hk hf _ ih =>
    intro o' h'
    cases h' with
    | puts _ _ _ o2 _ _ g => rw [ih g]
    | pass _ _ _ _ g g2 =>
      exfalso
      rcases hf with hf | hf
      · exact g ⟨hk, hf⟩
      · exact hf g2
    | both _ _ _ _ _ _ g => exact absurd hk g
  | pass a d b o hf hk _ ih =>
    intro o' h'
    cases h' with
    | puts _ _ _ o2 g gf =>
      exfalso
      rcases gf with gf | gf
      · exact hf ⟨g, gf⟩
      · exact gf hk
    | pass _ _ _ _ _ _ g => rw [ih g]
    | both _ _ _ _ _ _ _ g => exact absurd hk g
  | both c a d b o n h1 h2 hmin _ ih =>
    intro o' h'
    cases h' with
    | puts _ _ _ o2 g => exact absurd g h1
    | pass _ _ _ _ _ g => exact absurd g h2
    | both _ _ _ _ _ m _ _ hm g => subst hmin; subst hm; rw [ih g]
end Go.Proofs.Ytfbkdabnbddgpaa

/- Edits whose texts have characters of their own: each that is kept stands there once, in its order; each that is put in, too; behind another edit as well. No condition beyond those that each lemma states. -/
namespace Go.Proofs.Ytfbkdabnbddgpaa

/-- How many code points an edit puts in. -/
noncomputable def insN : List CompV → Nat
  | [] => 0
  | c :: l => (if c.kind = 2 then (cps c.text).length else 0) + insN l
theorem insN_nil : insN [] = 0 := rfl
theorem insN_cons (c : CompV) (l : List CompV) : insN (c :: l) = (if c.kind = 2 then (cps c.text).length else 0) + insN l := rfl
/-- The edit with characters of its own, from nx on. -/
noncomputable def lab : List CompV → Nat → List CompV
  | [], _ => []
  | c :: l, nx => if c.kind = 2 then ⟨c.kind, c.n, E (List.range' nx (cps c.text).length)⟩ :: lab l (nx + (cps c.text).length) else c :: lab l nx
theorem lab_nil (nx : Nat) : lab [] nx = [] := rfl
theorem lab_cons (c : CompV) (l : List CompV) (nx : Nat) : lab (c :: l) nx = if c.kind = 2 then ⟨c.kind, c.n, E (List.range' nx (cps c.text).length)⟩ :: lab l (nx + (cps c.text).length) else c :: lab l nx := rfl
/-- Its texts are its own characters, from nx on. -/
def Lb : Nat → List CompV → Prop
  | _, [] => True
  | nx, c :: l => if c.kind = 2 then cps c.text = List.range' nx (cps c.text).length ∧ Lb (nx + (cps c.text).length) l else Lb nx l
theorem Lb_two {nx : Nat} {c : CompV} {l : List CompV} (h : c.kind = 2) : Lb nx (c :: l) ↔ cps c.text = List.range' nx (cps c.text).length ∧ Lb (nx + (cps c.text).length) l := by rw [Lb, if_pos h]
theorem Lb_not {nx : Nat} {c : CompV} {l : List CompV} (h : c.kind ≠ 2) : Lb nx (c :: l) ↔ Lb nx l := by rw [Lb, if_neg h]
theorem may_range {nx n : Nat} (h0 : 0 < nx) (h1 : nx + n ≤ 55296) : ∀ v ∈ List.range' nx n, May v := fun v hv => by
  rw [List.mem_range'_1] at hv
  exact ⟨by omega, by omega, .inl (by omega)⟩
theorem lab_all : ∀ (l : List CompV) (nx : Nat) (k : Int), Ch k l → 0 < nx → nx + insN l ≤ 55296 → Ch k (lab l nx) ∧ Lb nx (lab l nx) ∧ insN (lab l nx) = insN l ∧ inS (lab l nx) = inS l ∧ outS (lab l nx) = outS l ∧ (lab l nx).length = l.length
  | [], _, _, _, _, _ => ⟨trivial, trivial, rfl, rfl, rfl, rfl⟩
  | c :: l, nx, k, h, h0, h1 => by
    rw [insN_cons] at h1
    by_cases hk : c.kind = 2
    · rw [if_pos hk] at h1
      have hm : ∀ v ∈ List.range' nx (cps c.text).length, May v := may_range h0 (by omega)
      obtain ⟨i1, i2, i3, i4, i5, i6⟩ := lab_all l (nx + (cps c.text).length) c.kind h.2.2.2 (by omega) (by omega)
      have hc : cps (E (List.range' nx (cps c.text).length)) = List.range' nx (cps c.text).length := cps_E hm
      have hl : (cps (E (List.range' nx (cps c.text).length))).length = (cps c.text).length := by rw [hc, List.length_range']
      rw [lab_cons, if_pos hk, insN_cons, insN_cons, inS_cons, inS_cons, outS_cons, outS_cons, List.length_cons, List.length_cons, i3, i4, i5, i6, Lb_two (show (CompV.mk c.kind c.n (E (List.range' nx (cps c.text).length))).kind = 2 from hk), if_pos (show c.kind = 2 from hk), in_two (show c.kind = 2 from hk), out_two (show c.kind = 2 from hk)]
      have hw := h.1
      rcases hw.cases with ⟨g, _⟩ | ⟨g, _⟩ | ⟨_, gn, gt, gv⟩
      · omega
      · omega
      · have hpos := cps_ne gv gt
        refine ⟨⟨.inr ⟨hk, gn, E_ne (by rw [List.length_range']; exact hpos), _, V.mk hm⟩, h.2.1, h.2.2.1, i1⟩, ⟨by rw [hl]; exact hc, by rw [hl]; exact i2⟩, by rw [if_pos (show (CompV.mk c.kind c.n (E (List.range' nx (cps c.text).length))).kind = 2 from hk), hl], by rw [in_two (show (CompV.mk c.kind c.n (E (List.range' nx (cps c.text).length))).kind = 2 from hk)], by rw [out_two (show (CompV.mk c.kind c.n (E (List.range' nx (cps c.text).length))).kind = 2 from hk), hl], rfl⟩
    · rw [if_neg hk, Nat.zero_add] at h1
      obtain ⟨i1, i2, i3, i4, i5, i6⟩ := lab_all l nx c.kind h.2.2.2 h0 h1
      rw [lab_cons, if_neg hk, insN_cons, insN_cons, inS_cons, inS_cons, outS_cons, outS_cons, List.length_cons, List.length_cons, i3, i4, i5, i6, Lb_not hk]
      exact ⟨⟨h.1, h.2.1, h.2.2.1, i1⟩, i2, rfl, rfl, rfl, rfl⟩
theorem insN_out : ∀ (l : List CompV), (∀ c ∈ l, Wh c) → insN l ≤ outS l
  | [], _ => Nat.zero_le _
  | c :: l, hw => by
    have ih := insN_out l fun x hx => hw x (List.mem_cons_of_mem _ hx)
    rw [insN_cons, outS_cons]
    by_cases hk : c.kind = 2
    · rw [if_pos hk, out_two hk]; omega
    · rw [if_neg hk]; omega
theorem lab_ok {l : List CompV} (h : Ok l) {nx : Nat} (h0 : 0 < nx) (h1 : nx ≤ 50000) : Ok (lab l nx) := by
  have hi := insN_out l h.wh
  have ho := h.out1
  obtain ⟨i1, _, _, i4, i5, i6⟩ := lab_all l nx 0 h.nrm.ch h0 (by omega)
  exact ok_mk (by rw [i6]; exact h.len) i1.nrm (by rw [i4]; exact h.base1) (by rw [i5]; exact h.out1)

/-- What is seen so far: the last one of the base's, the next one of the one's, and of the other one's. -/
structure Sn where
  last : Nat
  i : Nat
  k : Nat
def snStep (T1 T2 : Nat) (s : Sn) (v : Nat) : Sn := if T2 ≤ v then { s with k := s.k + 1 } else if T1 ≤ v then { s with i := s.i + 1 } else { s with last := v }
/-- Each is as it should be. -/
def SnOk (T1 T2 : Nat) : Sn → List Nat → Prop
  | _, [] => True
  | s, v :: y => (T2 ≤ v → v = s.k) ∧ (T1 ≤ v → v < T2 → v = s.i) ∧ (v < T1 → s.last < v) ∧ SnOk T1 T2 (snStep T1 T2 s v) y
theorem SnOk.append {T1 T2 : Nat} : ∀ (x : List Nat) (s : Sn) (y : List Nat), SnOk T1 T2 s (x ++ y) ↔ SnOk T1 T2 s x ∧ SnOk T1 T2 (x.foldl (snStep T1 T2) s) y
  | [], s, y => by simp [SnOk]
  | v :: x, s, y => by
    rw [List.cons_append, SnOk, SnOk, List.foldl_cons, SnOk.append x]
    exact ⟨fun h => ⟨⟨h.1, h.2.1, h.2.2.1, h.2.2.2.1⟩, h.2.2.2.2⟩, fun h => ⟨h.1.1, h.1.2.1, h.1.2.2.1, h.1.2.2.2, h.2⟩⟩
theorem SnOk.at_ {T1 T2 : Nat} {s : Sn} {y : List Nat} (h : SnOk T1 T2 s y) {j v : Nat} (hj : y[j]? = some v) :
    (T2 ≤ v → v = ((y.take j).foldl (snStep T1 T2) s).k) ∧ (T1 ≤ v → v < T2 → v = ((y.take j).foldl (snStep T1 T2) s).i) ∧ (v < T1 → ((y.take j).foldl (snStep T1 T2) s).last < v) := by
  obtain ⟨hlt, rfl⟩ := List.getElem?_eq_some_iff.1 hj
  have e : y = y.take j ++ y[j] :: y.drop (j + 1) := by rw [← List.drop_eq_getElem_cons hlt, List.take_append_drop]
  rw [e, SnOk.append, SnOk] at h
  have h2 := h.2
  exact ⟨h2.1, h2.2.1, h2.2.2.1⟩
/-- A stretch of the base. -/
theorem sn_base {T1 T2 : Nat} : ∀ (n a : Nat) (s : Sn), s.last < a → a + n ≤ T1 → T1 ≤ T2 →
    SnOk T1 T2 s (List.range' a n) ∧ ((List.range' a n).foldl (snStep T1 T2) s).i = s.i ∧ ((List.range' a n).foldl (snStep T1 T2) s).k = s.k ∧ ((List.range' a n).foldl (snStep T1 T2) s).last < a + n
  | 0, a, s, h, _, _ => ⟨trivial, rfl, rfl, by simpa using h⟩
  | n + 1, a, s, h, h1, h2 => by
    rw [List.range'_succ]
    have e : snStep T1 T2 s a = { s with last := a } := by rw [snStep, if_neg (by omega), if_neg (by omega)]
    obtain ⟨i1, i2, i3, i4⟩ := sn_base n (a + 1) { s with last := a } (Nat.lt_succ_self a) (by omega) h2
    rw [SnOk, List.foldl_cons, e]
    exact ⟨⟨fun h => by omega, fun h => by omega, fun _ => h, i1⟩, i2, i3, by omega⟩
theorem sn_one {T1 T2 : Nat} : ∀ (n : Nat) (s : Sn), T1 ≤ s.i → s.i + n ≤ T2 →
    SnOk T1 T2 s (List.range' s.i n) ∧ (List.range' s.i n).foldl (snStep T1 T2) s = { s with i := s.i + n }
  | 0, s, _, _ => ⟨trivial, rfl⟩
  | n + 1, s, h1, h2 => by
    rw [List.range'_succ]
    have e : snStep T1 T2 s s.i = { s with i := s.i + 1 } := by rw [snStep, if_neg (by omega), if_pos (by omega)]
    obtain ⟨i1, i2⟩ := sn_one n { s with i := s.i + 1 } (by show T1 ≤ s.i + 1; omega) (by show s.i + 1 + n ≤ T2; omega)
    rw [SnOk, List.foldl_cons, e]
    refine ⟨⟨fun h => by omega, fun _ _ => rfl, fun h => by omega, i1⟩, i2.trans ?_⟩
    show Sn.mk s.last (s.i + 1 + n) s.k = Sn.mk s.last (s.i + (n + 1)) s.k
    rw [show s.i + 1 + n = s.i + (n + 1) by omega]
theorem sn_two {T1 T2 : Nat} (hT : T1 ≤ T2) : ∀ (n : Nat) (s : Sn), T2 ≤ s.k →
    SnOk T1 T2 s (List.range' s.k n) ∧ (List.range' s.k n).foldl (snStep T1 T2) s = { s with k := s.k + n }
  | 0, s, _ => ⟨trivial, rfl⟩
  | n + 1, s, h1 => by
    rw [List.range'_succ]
    have e : snStep T1 T2 s s.k = { s with k := s.k + 1 } := by rw [snStep, if_pos (by omega)]
    obtain ⟨i1, i2⟩ := sn_two hT n { s with k := s.k + 1 } (by show T2 ≤ s.k + 1; omega)
    rw [SnOk, List.foldl_cons, e]
    refine ⟨⟨fun _ => rfl, fun h => by omega, fun h => by omega, i1⟩, i2.trans ?_⟩
    show Sn.mk s.last s.i (s.k + 1 + n) = Sn.mk s.last s.i (s.k + (n + 1))
    rw [show s.k + 1 + n = s.k + (n + 1) by omega]
theorem range_take' : ∀ (m a n : Nat), m ≤ n → (List.range' a n).take m = List.range' a m
  | 0, a, n, _ => by simp
  | m + 1, a, 0, h => by omega
  | m + 1, a, n + 1, h => by rw [List.range'_succ, List.range'_succ, List.take_succ_cons, range_take' m (a + 1) n (by omega)]
theorem range_drop' : ∀ (m a n : Nat), (List.range' a n).drop m = List.range' (a + m) (n - m)
  | 0, a, n => by simp
  | m + 1, a, 0 => by simp
  | m + 1, a, n + 1 => by rw [List.range'_succ, List.drop_succ_cons, range_drop' m (a + 1) n, show a + 1 + m = a + (m + 1) by omega, show n + 1 - (m + 1) = n - m by omega]
theorem range_take {a n m : Nat} (h : m ≤ n) : (List.range' a n).take m = List.range' a m := range_take' m a n h
theorem range_drop {a n m : Nat} : (List.range' a n).drop m = List.range' (a + m) (n - m) := range_drop' m a n
/-- An edit with characters of its own. -/
theorem keeps_one {T1 T2 : Nat} (hT : T1 ≤ T2) : ∀ (l : List CompV) (a n : Nat) (s : Sn), (∀ c ∈ l, Wh c) → Lb s.i l → inS l ≤ n → s.last < a → a + n ≤ T1 → T1 ≤ s.i → s.i + insN l ≤ T2 →
    SnOk T1 T2 s (ed l (List.range' a n)) ∧ ((ed l (List.range' a n)).foldl (snStep T1 T2) s).i = s.i + insN l ∧ ((ed l (List.range' a n)).foldl (snStep T1 T2) s).k = s.k
  | [], a, n, s, _, _, _, _, _, _, _ => by rw [ed_nil]; exact ⟨trivial, rfl, rfl⟩
  | c :: l, a, n, s, hw, hb, hn, hla, ha, hi, hi2 => by
    have hw' := fun x hx => hw x (List.mem_cons_of_mem _ hx)
    rw [inS_cons] at hn
    rw [insN_cons] at hi2 ⊢
    rcases (hw c (by simp)).cases with ⟨g, gn, _⟩ | ⟨g, gn, _⟩ | ⟨g, _⟩
    · rw [in_one g] at hn
      rw [if_neg (by omega), Nat.zero_add] at hi2 ⊢
      rw [Lb_not (by omega)] at hb
      obtain ⟨b1, b2, b3, b4⟩ := sn_base (T1 := T1) (T2 := T2) c.n.toNat a s hla (by omega) hT
      rw [ed_one g, range_take (by omega), range_drop, SnOk.append, List.foldl_append]
      have i := keeps_one hT l (a + c.n.toNat) (n - c.n.toNat) _ hw' (by rw [b2]; exact hb) (by omega) b4 (by omega) (by rw [b2]; exact hi) (by rw [b2]; exact hi2)
      exact ⟨⟨b1, i.1⟩, by rw [i.2.1, b2], by rw [i.2.2, b3]⟩
    · rw [in_three g] at hn
      rw [if_neg (by omega), Nat.zero_add] at hi2 ⊢
      rw [Lb_not (by omega)] at hb
      rw [ed_three g, range_drop]
      exact keeps_one hT l _ _ s hw' hb (by omega) (by omega) (by omega) hi hi2
    · rw [in_two g, Nat.zero_add] at hn
      rw [if_pos g] at hi2 ⊢
      rw [Lb_two g] at hb
      obtain ⟨b1, b2⟩ := sn_one (T1 := T1) (T2 := T2) (cps c.text).length s hi (by omega)
      rw [ed_two g, hb.1, SnOk.append, List.foldl_append, b2, List.length_range']
      have i := keeps_one hT l a n { s with i := s.i + (cps c.text).length } hw' hb.2 hn hla ha (by show T1 ≤ s.i + _; omega) (by show s.i + (cps c.text).length + insN l ≤ T2; omega)
      refine ⟨⟨b1, i.1⟩, ?_, i.2.2⟩
      rw [i.2.1]
      show s.i + (cps c.text).length + insN l = _
      omega
end Go.Proofs.Ytfbkdabnbddgpaa

/- An edit whose texts are turned one by one into characters of their own. No condition. -/
namespace Go.Proofs.Ytfbkdabnbddgpaa

theorem insN_append : ∀ (a b : List CompV), insN (a ++ b) = insN a + insN b
  | [], b => by rw [List.nil_append, insN_nil]; omega
  | c :: a, b => by rw [List.cons_append, insN_cons, insN_cons, insN_append a b]; omega
theorem lab_append : ∀ (a b : List CompV) (nx : Nat), lab (a ++ b) nx = lab a nx ++ lab b (nx + insN a)
  | [], b, nx => by rw [List.nil_append, lab_nil, insN_nil]; rfl
  | c :: a, b, nx => by
    rw [List.cons_append, lab_cons, lab_cons, insN_cons]
    split
    · rw [lab_append a b, List.cons_append, Nat.add_assoc]
    · rw [lab_append a b, List.cons_append, Nat.zero_add]
theorem lab_len : ∀ (l : List CompV) (nx : Nat), (lab l nx).length = l.length
  | [], nx => rfl
  | c :: l, nx => by
    rw [lab_cons]
    split <;> rw [List.length_cons, lab_len l, List.length_cons]
/-- The edit behind some turns. -/
noncomputable def half (l : List CompV) (nx k : Nat) : List CompV := lab (l.take k) nx ++ l.drop k
theorem half_zero (l : List CompV) (nx : Nat) : half l nx 0 = l := by rw [half, List.take_zero, lab_nil]; rfl
theorem half_all (l : List CompV) (nx : Nat) : half l nx l.length = lab l nx := by rw [half, List.take_length, List.drop_length, List.append_nil]
theorem half_len (l : List CompV) (nx k : Nat) : (half l nx k).length = l.length := by
  rw [half, List.length_append, lab_len, List.length_take, List.length_drop]; omega
theorem half_get {l : List CompV} {nx k : Nat} (h : k < l.length) : (half l nx k)[k]'(by rw [half_len]; exact h) = l[k] := by
  have e : (half l nx k)[k]? = some l[k] := by
    rw [half, List.getElem?_append_right (by rw [lab_len, List.length_take]; omega), lab_len, List.length_take, show k - min k l.length = 0 by omega, List.getElem?_drop, Nat.add_zero, List.getElem?_eq_getElem h]
  rw [List.getElem?_eq_getElem (by rw [half_len]; exact h)] at e
  injection e
theorem half_not {l : List CompV} {nx k : Nat} (h : k < l.length) (hk : l[k].kind ≠ 2) : half l nx (k + 1) = half l nx k ∧ insN (l.take (k + 1)) = insN (l.take k) := by
  have e : l.take (k + 1) = l.take k ++ [l[k]] := List.take_succ_eq_append_getElem h
  refine ⟨?_, ?_⟩
  · rw [half, half, e, lab_append, lab_cons, if_neg hk, lab_nil, List.drop_eq_getElem_cons h, List.append_assoc]
    rfl
  · rw [e, insN_append, insN_cons, if_neg hk, insN_nil]
    rfl
theorem half_two {l : List CompV} {nx k : Nat} (h : k < l.length) (hk : l[k].kind = 2) :
    half l nx (k + 1) = (half l nx k).set k ⟨l[k].kind, l[k].n, E (List.range' (nx + insN (l.take k)) (cps l[k].text).length)⟩ ∧ insN (l.take (k + 1)) = insN (l.take k) + (cps l[k].text).length := by
  have e : l.take (k + 1) = l.take k ++ [l[k]] := List.take_succ_eq_append_getElem h
  refine ⟨?_, ?_⟩
  · rw [half, half, e, lab_append, lab_cons, if_pos hk, lab_nil, List.drop_eq_getElem_cons h, List.set_append_right _ _ (by rw [lab_len, List.length_take]; omega), lab_len, List.length_take, show k - min k l.length = 0 by omega, List.set_cons_zero, List.append_assoc]
    rfl
  · rw [e, insN_append, insN_cons, if_pos hk, insN_nil, Nat.add_zero]
theorem flat_set : ∀ (l : List CompV) (k : Nat) (kd n : Int) (t0 t : List Nat), l[k]? = some ⟨kd, n, t0⟩ → (l.flatMap compCells).set (k * 3 + 2) (.string (bstr t)) = (l.set k ⟨kd, n, t⟩).flatMap compCells
  | [], k, kd, n, t0, t, h => by simp at h
  | c :: l, 0, kd, n, t0, t, h => by
    simp at h
    subst h
    simp [compCells]
  | c :: l, k + 1, kd, n, t0, t, h => by
    have ih := flat_set l k kd n t0 t (by simpa using h)
    rw [List.set_cons_succ, List.flatMap_cons, List.flatMap_cons, ← ih, show (k + 1) * 3 + 2 = (k * 3 + 2) + 3 by omega]
    simp [compCells]
theorem out_kept : ∀ (l : List CompV), (∀ c ∈ l, Wh c) → (outS l : Int) = keptS l + (insN l : Int)
  | [], _ => by rw [outS_nil, insN_nil]; rfl
  | c :: l, hw => by
    have ih := out_kept l fun x hx => hw x (List.mem_cons_of_mem _ hx)
    have e : keptS (c :: l) = (if c.kind = 1 then c.n else 0) + keptS l := by
      have : keptS (c :: l) = l.foldl (fun m c => if c.kind = 1 then m + c.n else m) (if c.kind = 1 then 0 + c.n else 0) := rfl
      rw [this, kept_fold]
      split <;> omega
    rw [outS_cons, insN_cons, e]
    rcases (hw c (by simp)).cases with ⟨hk, hn, _⟩ | ⟨hk, hn, _⟩ | ⟨hk, _, _, _⟩
    · rw [out_one hk, if_pos hk, if_neg (by omega)]; omega
    · rw [out_three hk, if_neg (by omega), if_neg (by omega)]; omega
    · rw [out_two hk, if_neg (by omega), if_pos hk]; omega
end Go.Proofs.Ytfbkdabnbddgpaa

/- ApplyKeeps, walked: each character that an edit keeps stands there once, in its order; each that it puts in, too; those that it deletes are gone. Condition: what memory may hold. -/
namespace Go.Proofs.Ytfbkdabnbddgpaa
open Go.RowKit Go.Deep

theorem own_below2 {base : Nat} {e : TypeId} {size : Nat} {v : Value} {n : Nat} {xs : List Value} {w w' : World} (h : w.ownsRow base e size v n xs) (hb : Below w.heap.size w w') : w'.ownsRow base e size v n xs := own_below h hb
theorem nz_len (vs : List Nat) : (nz vs).length = vs.length := nz_length vs
theorem VZ_mk {vs : List Nat} (h : ∀ v ∈ vs, May v) : VZ (nz vs) vs := ⟨h, rfl⟩
theorem in_le_mem : ∀ {l : List CompV} {y : CompV}, y ∈ l → inN y ≤ inS l
  | c :: l, y, h => by
    rw [inS_cons]
    rcases List.mem_cons.1 h with rfl | h
    · omega
    · have := in_le_mem h
      omega
/-- Text of numbers that may be. -/
theorem text_range {A : Option Addr} {n k : Nat} (c : Nat) (hk : k ≤ 1073741824) (hm : ∀ v ∈ List.range' n k, May v) (w : World) (hA : IntsAt w A (nz (List.range' n k))) :
    Calls Try.prog 21 #[.slice A k c] w fun e w' => e = .returned (.tuple #[.string (bstr (E (List.range' n k))), .bool true]) ∧ Below w.heap.size w w' := by
  have hl : (nz (List.range' n k)).length = k := by rw [nz_length, List.length_range']
  have h := refText_any c (by rw [hl]; exact hk) w hA
  rw [hl] at h
  refine h.mono ?_
  rintro e w' ⟨⟨vs, hv, rfl⟩ | ⟨hn, _⟩, hb⟩
  · rw [hv.uniq (VZ_mk hm)]
    exact ⟨rfl, hb⟩
  · exact absurd ⟨_, VZ_mk hm⟩ hn

set_option maxHeartbeats 8000000 in
set_option maxRecDepth 100000 in
theorem applyKeeps_any (n : Int) (A : Option Addr) (l : List CompV) (c : Nat) (hn : -9223372036854775808 ≤ n ∧ n ≤ 9223372036854775807) (hl : l.length ≤ maxLen) (hg : ∀ y ∈ l, y.Good) (w : World) (hA : CompsAt w A l) :
    Calls Try.prog 5 #[.int .i64 n, .slice A l.length c] w fun e w' => e = .returned (.bool true) ∧ Below w.heap.size w w' := by
  have GA := Lib.hid (fun w => apAwake_any w)
  have GW := Lib.hid (fun w h => alikeComps_at 2000 c hl hg w (A := A) h)
  have HA := Lib.hid hA
  clear hA
  obtain ⟨T, HT⟩ : ∃ x, Hid (compsWeight 2000 l = x) := ⟨_, rfl⟩
  rw [HT.out] at GW
  have HW0 := Lib.hid (Below.refl w.heap.size w)
  by_cases h1 : n < 0
  · have d1 : decide (n < 0) = true := decide_eq_true h1
    clear h1
    go_enter Try.func5, Try.ntmps5
    go_wp2_with fail
    refine (GA.out _).mono ?_
    rintro e w1 ⟨rfl, hb⟩
    have HW1 : Hid (Below w.heap.size w w1) := HW0.out.trans (hb.mono HW0.out.size)
    replace HA := Lib.hid (HA.out.below hb)
    clear hb
    go_wp2
    go_ret
    exact ⟨rfl, HW1.out⟩
  by_cases h2 : 300 < n
  · have d2 : decide (300 < n) = true := decide_eq_true h2
    go_enter Try.func5, Try.ntmps5
    go_wp2_with fail
    refine (GA.out _).mono ?_
    rintro e w1 ⟨rfl, hb⟩
    have HW1 : Hid (Below w.heap.size w w1) := HW0.out.trans (hb.mono HW0.out.size)
    replace HA := Lib.hid (HA.out.below hb)
    clear hb
    go_wp2
    go_ret
    exact ⟨rfl, HW1.out⟩
  obtain ⟨N, rfl⟩ : ∃ N : Nat, n = (N : Int) := ⟨n.toNat, by omega⟩
  have hN : N ≤ 300 := by omega
  clear h1 h2 hn
  by_cases h3 : T ≤ 2000
  · have hs1 := weight_spec 2000 (by omega) l (by rw [HT.out]; exact h3)
    have hfl : Fine1 l := fine_of hg (by omega)
    have GC := Lib.hid (fun w h => opCheck_any A c l hl hfl w h)
    have GB := Lib.hid (fun w h => opBase_any A c l hl w h)
    have HG := Lib.hid hg
    have HL := Lib.hid hl
    have HFL := Lib.hid hfl
    have hln : l.length ≤ 2000 := by omega
    clear hg hl hfl
    by_cases hz : rCheck l = 0
    · by_cases hbn : rBase l = (N : Int)
      · rw [hz] at GC
        rw [hbn] at GB
        have hok := ok_of hz
        have HOK := Lib.hid hok
        have HIN : Hid (inS l = N) := by have := hok.base; show _ = _; omega
        clear hok hz hbn hs1
        go_enter Try.func5, Try.ntmps5
        go_wp2_with fail
        refine (GW.out _ HA.out).mono ?_
        rintro e w1 ⟨rfl, hb⟩
        have HW1 : Hid (Below w.heap.size w w1) := HW0.out.trans (hb.mono HW0.out.size)
        replace HA := Lib.hid (HA.out.below hb)
        clear hb
        go_wp2_with fail
        refine (GC.out _ HA.out).mono ?_
        rintro e w2 ⟨rfl, hb⟩
        have HW2 : Hid (Below w.heap.size w w2) := HW1.out.trans (hb.mono HW1.out.size)
        replace HA := Lib.hid (HA.out.below hb)
        clear hb
        go_wp2_with fail
        refine (GB.out _ HA.out).mono ?_
        rintro e w3 ⟨rfl, hb⟩
        have HW3 : Hid (Below w.heap.size w w3) := HW2.out.trans (hb.mono HW2.out.size)
        replace HA := Lib.hid (HA.out.below hb)
        clear hb
        obtain ⟨gb, HGB⟩ : ∃ x, Hid (w.heap.size = x) := ⟨_, rfl⟩
        go_wp2
        go_loopw [5, 6] (fun p i wr => ∃ k : Nat, k ≤ N ∧ i = .int .i64 k ∧ wr.ownsRow w3.heap.size 3 1 p (List.range' 1000 k).length (is64 (nz (List.range' 1000 k))) ∧ Below w3.heap.size w3 wr) (fun _ i _ => N - (intOf i).toNat)
        case atStart => exact ⟨0, Nat.zero_le _, rfl, by simpa [is64, nz] using World.ownsRow_nil _ _ _ _, Below.refl _ _⟩
        case round =>
          obtain ⟨k, hk, rfl, ho, hb⟩ := hrel
          have HO := Lib.hid ho
          have HB := Lib.hid hb
          clear ho hb
          by_cases hlt : k < N
          · have hsz := HB.out.size
            go_wp2_with (at_builtin
                         refine wpList_append_int rfl (.tmp 51) (.tmp 54) rfl w3.heap.size _ (List.range' 1000 k) rfl (HO.out.alloc _) wr.heap.size (1000 + k) rfl (by rw [cell_of_row _ _ _ _ _ _ (heap_alloc_new wr _)]; rfl) (by rw [List.length_range']; omega) (by simp; omega) ?_
                         intro v' w8 hown8 hgr8
                         have HO8 : Hid (w8.ownsRow w3.heap.size 3 1 v' (List.range' 1000 (k + 1)).length (is64 (nz (List.range' 1000 (k + 1))))) := by rw [List.range'_1_concat]; exact hown8
                         have HB8 : Hid (Below w3.heap.size w3 w8) := (HB.out.alloc hsz _).grown hgr8 (by simp; omega) (fun k hk => (HO.out.lt k hk).1)
                         clear hown8 hgr8)
            go_wp2
            go_roundw
            case rel => exact ⟨k + 1, by omega, by go_num, HO8.out, HB8.out⟩
            case measure => simp [intOf]; omega
          · have hke : k = N := by omega
            subst hke
            obtain ⟨w4, hw4⟩ : ∃ x, x = wr := ⟨wr, rfl⟩
            subst hw4
            obtain ⟨A1, c1, rfl⟩ := own_slice HO.out
            have HI1 : Hid (IntsAt w4 A1 (nz (List.range' 1000 k))) := IntsAt.of_own HO.out (by rw [nz_length])
            have HW4 : Hid (Below w.heap.size w w4) := HW3.out.trans (HB.out.mono HW3.out.size)
            have HA4 : Hid (CompsAt w4 A l) := HA.out.below HB.out
            have GT := Lib.hid (fun c w h => text_range (A := A1) (n := 1000) (k := k) c (by omega) (may_range (by omega) (by omega)) w h)
            rw [List.length_range']
            have hsm : ∀ v ∈ List.range' 1000 k, May v := may_range (by omega) (by omega)
            have HSV : Hid (V (E (List.range' 1000 k)) (List.range' 1000 k)) := V.mk hsm
            clear hsm
            obtain ⟨S, HS⟩ : ∃ S, Hid (bstr (E (List.range' 1000 k)) = S) := ⟨_, Lib.hid rfl⟩
            rw [HS.out] at GT
            replace HA := HA4
            clear HA4
            go_wp2_with fail
            refine (GT.out _ _ HI1.out).mono ?_
            rintro e w5 ⟨rfl, hb⟩
            have HW5 : Hid (Below w.heap.size w w5) := HW4.out.trans (hb.mono HW4.out.size)
            replace HA := Lib.hid (HA.out.below hb)
            clear hb
            by_cases h0 : l.length = 0
            · have hl0 : l = [] := List.eq_nil_of_length_eq_zero h0
              subst hl0
              simp only [List.length_nil]
              cases A with
              | none =>
                have hsc : ∀ (a : Addr) (w : World), (storeCells a []).run Try.prog w = .ok () w := fun _ _ => rfl
                have hpu : ∀ (w : World), (pure #[] : Sem (Array Value)).run Try.prog w = .ok #[] w := fun _ => rfl
                go_wp2
                have HW6 : Hid (Below w.heap.size w (w5.alloc (.cells #[] 45))) := HW5.out.alloc HW5.out.size _
                generalize w5.alloc (.cells #[] 45) = w6 at HW6 ⊢
                have HN0 : Hid (k = 0) := by show _ = _; rw [← HIN.out, inS_nil]
                have GD0 : Hid (∀ A c w, Calls Try.prog 9 #[.string S, .slice A 0 c] w fun e w' => e = .returned (.tuple #[.string (bstr []), .int .i64 0]) ∧ Below w.heap.size w w') := fun A c w => by
                  have hnr : ((List.range' 1000 k).length : Int) = rBase [] := by rw [HN0.out]; rfl
                  have := apDo_any (E (List.range' 1000 k)) A c [] HSV.out.lt (by rw [HN0.out]; simp [E_nil]) (by simp) (fun y hy => absurd hy (by simp)) (by simp [tlen]) w (.inl rfl)
                  rw [HS.out] at this
                  refine this.mono ?_
                  rintro e w' ⟨hd, hb⟩
                  have h2 := hd.eq
                  rw [dErr_ok HOK.out.check HSV.out hnr, dTxt_ed HOK.out.check HSV.out hnr, HN0.out, ed_nil, E_nil] at h2
                  exact ⟨h2, hb⟩
                have GP0 : Hid (∀ w, Calls Try.prog 22 #[.string (bstr [])] w fun e w' => (∃ A c, e = .returned (.tuple #[.slice A 0 c, .bool true])) ∧ Below w.heap.size w w') := fun w => by
                  refine (refPoints_any [] (by simp) (by simp) w).mono ?_
                  rintro e w' ⟨⟨vs, hv, A, c, rfl, hi⟩ | ⟨hn, _⟩, hb⟩
                  · obtain rfl := hv.uniq V.nil
                    exact ⟨⟨A, c, rfl⟩, hb⟩
                  · exact absurd ⟨_, V.nil⟩ hn
                go_loopw [10, 11] (fun nx i wr => i = .int .i64 0 ∧ nx = .int .i64 5000 ∧ w6 = wr) (fun _ _ _ => 0)
                case atStart => exact ⟨rfl, rfl, rfl⟩
                case round =>
                  obtain ⟨rfl, rfl, rfl⟩ := hrel
                  go_wp2_with fail
                  refine (GD0.out _ _ _).mono ?_
                  rintro e w7 ⟨rfl, hb⟩
                  have HW7 : Hid (Below w.heap.size w w7) := HW6.out.trans (hb.mono HW6.out.size)
                  clear hb
                  go_wp2_with fail
                  refine (GP0.out _).mono ?_
                  rintro e w8 ⟨⟨A8, c8, rfl⟩, hb⟩
                  have HW8 : Hid (Below w.heap.size w w8) := HW7.out.trans (hb.mono HW7.out.size)
                  clear hb
                  go_wp2
                  go_loopw [4, 18, 19, 20] (fun rs la pu j wr => j = .int .i64 0 ∧ rs = .bool false ∧ la = .int .i64 0 ∧ pu = .int .i64 5000 ∧ w8 = wr) (fun _ _ _ _ _ => 0)
                  case atStart => exact ⟨rfl, rfl, rfl, rfl, rfl⟩
                  case round =>
                    obtain ⟨rfl, rfl, rfl, rfl, rfl⟩ := hrel
                    go_wp2
                    go_loopw [21, 22] (fun q j wr => j = .int .i64 0 ∧ q = .int .i64 0 ∧ w8 = wr) (fun _ _ _ => 0)
                    case atStart => exact ⟨rfl, rfl, rfl⟩
                    case round =>
                      obtain ⟨rfl, rfl, rfl⟩ := hrel
                      go_wp2_with fail
                      refine (GA.out _).mono ?_
                      rintro e w9 ⟨rfl, hb⟩
                      have HW9 : Hid (Below w.heap.size w w9) := HW8.out.trans (hb.mono HW8.out.size)
                      clear hb
                      go_wp2
                      go_ret
                      exact ⟨rfl, HW9.out⟩
              | some ad =>
                obtain ⟨i0, hi0, hz0, hz1, hz2⟩ := info_parts part_info
                have hown0 : (w5.alloc (.cells #[] 45)).ownsRow w5.heap.size 45 3 (.slice (some ⟨w5.heap.size, 0, none⟩) 0 0) 0 [] := ⟨rfl, .inr ⟨w5.heap.size, 0, #[], rfl, Nat.le_refl _, heap_alloc_new w5 _, Nat.le_refl _, Nat.zero_le _, rfl, rfl⟩⟩
                have HO0 := Lib.hid hown0
                clear hown0
                go_wp2_with (at_builtin
                             refine wpList_append_own_wide _ rfl (.tmp 61) (.tmp 62) 22 rfl w5.heap.size 45 i0 (.agg #[.int .i64 0, .int .i64 0, .string { data := #[] }]) 3 32 Try.underlying22 hi0 hz0 hz1 hz2 rfl (by omega) _ 0 [] rfl HO0.out ad 0 c [] rfl rfl (by simp) (by simp) (by simp) (by omega) (by simp) ?_
                             intro v' w6 hown6 hgr6 _
                             have HW6 : Hid (Below w.heap.size w w6) := HW5.out.trans ((((Below.refl _ w5).alloc (Nat.le_refl _) _).grown hgr6 (by simp) (fun k hk => (HO0.out.lt k hk).1)).mono HW5.out.size)
                             have HO6 : Hid (w6.ownsRow w5.heap.size 45 3 v' 0 []) := hown6
                             clear hown6 hgr6)
                obtain ⟨A6, c6, rfl⟩ := own_slice HO6.out
                go_wp2
                have HN0 : Hid (k = 0) := by show _ = _; rw [← HIN.out, inS_nil]
                have GD0 : Hid (∀ A c w, Calls Try.prog 9 #[.string S, .slice A 0 c] w fun e w' => e = .returned (.tuple #[.string (bstr []), .int .i64 0]) ∧ Below w.heap.size w w') := fun A c w => by
                  have hnr : ((List.range' 1000 k).length : Int) = rBase [] := by rw [HN0.out]; rfl
                  have := apDo_any (E (List.range' 1000 k)) A c [] HSV.out.lt (by rw [HN0.out]; simp [E_nil]) (by simp) (fun y hy => absurd hy (by simp)) (by simp [tlen]) w (.inl rfl)
                  rw [HS.out] at this
                  refine this.mono ?_
                  rintro e w' ⟨hd, hb⟩
                  have h2 := hd.eq
                  rw [dErr_ok HOK.out.check HSV.out hnr, dTxt_ed HOK.out.check HSV.out hnr, HN0.out, ed_nil, E_nil] at h2
                  exact ⟨h2, hb⟩
                have GP0 : Hid (∀ w, Calls Try.prog 22 #[.string (bstr [])] w fun e w' => (∃ A c, e = .returned (.tuple #[.slice A 0 c, .bool true])) ∧ Below w.heap.size w w') := fun w => by
                  refine (refPoints_any [] (by simp) (by simp) w).mono ?_
                  rintro e w' ⟨⟨vs, hv, A, c, rfl, hi⟩ | ⟨hn, _⟩, hb⟩
                  · obtain rfl := hv.uniq V.nil
                    exact ⟨⟨A, c, rfl⟩, hb⟩
                  · exact absurd ⟨_, V.nil⟩ hn
                go_loopw [10, 11] (fun nx i wr => i = .int .i64 0 ∧ nx = .int .i64 5000 ∧ w6 = wr) (fun _ _ _ => 0)
                case atStart => exact ⟨rfl, rfl, rfl⟩
                case round =>
                  obtain ⟨rfl, rfl, rfl⟩ := hrel
                  go_wp2_with fail
                  refine (GD0.out _ _ _).mono ?_
                  rintro e w7 ⟨rfl, hb⟩
                  have HW7 : Hid (Below w.heap.size w w7) := HW6.out.trans (hb.mono HW6.out.size)
                  clear hb
                  go_wp2_with fail
                  refine (GP0.out _).mono ?_
                  rintro e w8 ⟨⟨A8, c8, rfl⟩, hb⟩
                  have HW8 : Hid (Below w.heap.size w w8) := HW7.out.trans (hb.mono HW7.out.size)
                  clear hb
                  go_wp2
                  go_loopw [4, 18, 19, 20] (fun rs la pu j wr => j = .int .i64 0 ∧ rs = .bool false ∧ la = .int .i64 0 ∧ pu = .int .i64 5000 ∧ w8 = wr) (fun _ _ _ _ _ => 0)
                  case atStart => exact ⟨rfl, rfl, rfl, rfl, rfl⟩
                  case round =>
                    obtain ⟨rfl, rfl, rfl, rfl, rfl⟩ := hrel
                    go_wp2
                    go_loopw [21, 22] (fun q j wr => j = .int .i64 0 ∧ q = .int .i64 0 ∧ w8 = wr) (fun _ _ _ => 0)
                    case atStart => exact ⟨rfl, rfl, rfl⟩
                    case round =>
                      obtain ⟨rfl, rfl, rfl⟩ := hrel
                      go_wp2_with fail
                      refine (GA.out _).mono ?_
                      rintro e w9 ⟨rfl, hb⟩
                      have HW9 : Hid (Below w.heap.size w w9) := HW8.out.trans (hb.mono HW8.out.size)
                      clear hb
                      go_wp2
                      go_ret
                      exact ⟨rfl, HW9.out⟩
            · obtain ⟨b0, off, rfl, _⟩ := HA.out.form (by omega)
              obtain ⟨i0, hi0, hz0, hz1, hz2⟩ := info_parts part_info
              have hown0 : (w5.alloc (.cells #[] 45)).ownsRow w5.heap.size 45 3 (.slice (some ⟨w5.heap.size, 0, none⟩) 0 0) 0 [] := ⟨rfl, .inr ⟨w5.heap.size, 0, #[], rfl, Nat.le_refl _, heap_alloc_new w5 _, Nat.le_refl _, Nat.zero_le _, rfl, rfl⟩⟩
              have HO0 := Lib.hid hown0
              have HAC : Hid (∀ j u, (l.flatMap compCells)[j]? = some u → (w5.alloc (.cells #[] 45)).cell? ((⟨b0, off, none⟩ : Addr).add j) = some u) := fun j u hj => by
                rw [Go.WideShapes.add_plain]
                exact CellsAt.cell (HA.out.below ((Below.refl _ w5).alloc (Nat.le_refl _) _)) hj
              have HONE : Hid (∀ u ∈ l.flatMap compCells, u.oneCell' = true) := fun u hu => by
                obtain ⟨y, _, hy⟩ := List.mem_flatMap.1 hu
                simp [compCells] at hy
                rcases hy with rfl | rfl | rfl <;> rfl
              clear hown0
              go_wp2_with (at_builtin
                           refine wpList_append_own_wide _ rfl (.tmp 61) (.tmp 62) 22 rfl w5.heap.size 45 i0 (.agg #[.int .i64 0, .int .i64 0, .string { data := #[] }]) 3 32 Try.underlying22 hi0 hz0 hz1 hz2 rfl (by omega) _ 0 [] rfl HO0.out ⟨b0, off, none⟩ l.length c (l.flatMap compCells) rfl (flat_length compCells 3 compCells_length l) HAC.out HONE.out (by simp only [maxLen]; omega) (by omega) (by simp) ?_
                           intro v' w6 hown6 hgr6 _
                           rw [Nat.zero_add, List.nil_append] at hown6
                           have HB6 : Hid (Below w5.heap.size w5 w6) := ((Below.refl _ w5).alloc (Nat.le_refl _) _).grown hgr6 (by simp) (fun k hk => (HO0.out.lt k hk).1)
                           have HO6 := Lib.hid hown6
                           clear hown6 hgr6)
              obtain ⟨gm, c2, rfl, hgm, _⟩ := HO6.out.form (by omega)
              have HGM := Lib.hid hgm
              clear hgm hi0 hz0 hz1 hz2 HONE HAC HO0
              have HW6 : Hid (Below w.heap.size w w6) := HW5.out.trans (HB6.out.mono HW5.out.size)
              have HA6 : Hid (CompsAt w6 (some ⟨b0, off, none⟩) l) := HA.out.below HB6.out
              have hb05 : b0 < w5.heap.size := by
                obtain ⟨_, _, he, hlt5⟩ := HA.out.form (by omega)
                cases he
                exact hlt5
              go_wp2
              go_loopw [10, 11] (fun nx i wr => ∃ m : Nat, m ≤ l.length ∧ i = .int .i64 m ∧ nx = .int .i64 ((5000 + insN (l.take m) : Nat) : Int) ∧ wr.ownsRow w5.heap.size 45 3 (.slice (some ⟨gm, 0, none⟩) l.length c2) l.length ((half l 5000 m).flatMap compCells) ∧ Below w5.heap.size w5 wr) (fun _ i _ => l.length - (intOf i).toNat)
              case atStart => exact ⟨0, Nat.zero_le _, rfl, by rw [List.take_zero, insN_nil]; rfl, by rw [half_zero]; exact HO6.out, HB6.out⟩
              case round =>
                obtain ⟨wq, hwq⟩ : ∃ x, x = wr := ⟨wr, rfl⟩
                subst hwq
                obtain ⟨m, hm, rfl, rfl, ho, hb⟩ := hrel
                have HOQ := Lib.hid ho
                have HBQ := Lib.hid hb
                clear ho hb
                by_cases hlt : m < l.length
                · have hho : CompsAt wq (some ⟨gm, 0, none⟩) (half l 5000 m) := CellsAt.of_own HOQ.out
                  obtain ⟨y0, _, y2⟩ := hho.at_ (i := m) (by rw [half_len]; exact hlt)
                  rw [half_get hlt] at y0 y2
                  rw [Nat.zero_add] at y0 y2
                  clear hho
                  by_cases hk2 : l[m].kind = 2
                  · have hwh := HOK.out.wh _ (List.getElem_mem hlt)
                    have htx : ∃ vs, V l[m].text vs := by
                      rcases hwh.cases with ⟨h, _⟩ | ⟨h, _⟩ | ⟨_, _, _, h⟩
                      · omega
                      · omega
                      · exact h
                    have hvc := cps_V htx
                    have htl : l[m].text.length ≤ 1099511627776 := (HFL.out _ (List.getElem_mem hlt)).2
                    have GCt := Lib.hid (fun w => refCount_yes hvc htl w)
                    obtain ⟨x0, x1, x2⟩ := (HA.out.below HBQ.out).at_ hlt
                    have hh := half_two (nx := 5000) hlt hk2
                    have HH := Lib.hid hh
                    have hget : (half l 5000 m)[m]? = some l[m] := by rw [List.getElem?_eq_getElem (by rw [half_len]; exact hlt), half_get hlt]
                    have HGET := Lib.hid hget
                    have hins : insN (l.take (m + 1)) ≤ 2000 := by
                      have h1 := insN_out l HOK.out.wh
                      have h2 := HOK.out.out1
                      have h3 : insN l = insN (l.take (m + 1)) + insN (l.drop (m + 1)) := by rw [← insN_append, List.take_append_drop]
                      omega
                    have g2 : (l[m].kind != 2) = false := by rw [bne_eq_false_iff_eq]; exact hk2
                    obtain ⟨P, HP⟩ : ∃ x, Hid (l[m] = x) := ⟨_, Lib.hid rfl⟩
                    simp only [HP.out] at HH HGET g2 x2 y0 y2 GCt
                    obtain ⟨kd, n, tx⟩ := P
                    simp only at HH HGET g2 x2 y0 y2 GCt
                    obtain ⟨ct, HCT⟩ : ∃ x, Hid ((cps tx).length = x) := ⟨_, Lib.hid rfl⟩
                    rw [HCT.out] at GCt HH
                    obtain ⟨nx, HNX⟩ : ∃ x, Hid (5000 + insN (l.take m) = x) := ⟨_, Lib.hid rfl⟩
                    rw [HNX.out] at HH ⊢
                    have hnx : 5000 ≤ nx ∧ nx + ct ≤ 7000 := by have := HNX.out; have := HH.out.2; omega
                    clear hh hget hwh htx hvc htl hins x0 x1 hk2
                    go_wp2
                    go_loopw [10, 12, 13] (fun nn q j wr => ∃ i : Nat, i ≤ ct ∧ j = .int .i64 i ∧ nn = .int .i64 ((nx + i : Nat) : Int) ∧ wr.ownsRow wq.heap.size 3 1 q (List.range' nx i).length (is64 (nz (List.range' nx i))) ∧ Below wq.heap.size wq wr) (fun _ _ j _ => ct - (intOf j).toNat)
                    case atStart => exact ⟨0, Nat.zero_le _, rfl, rfl, by simpa [is64, nz] using World.ownsRow_nil _ _ _ _, Below.refl _ _⟩
                    case round =>
                      obtain ⟨i, hi, rfl, rfl, ho, hb⟩ := hrel
                      have HOI := Lib.hid ho
                      have HBI := Lib.hid hb
                      clear ho hb
                      have x3 : wr.cell? ⟨b0, off + m * 3 + 2, none⟩ = some (.string (bstr tx)) := by
                        have := ((HA.out.below HBQ.out).below HBI.out).at_ hlt
                        simp only [HP.out] at this
                        exact this.2.2
                      go_wp2_with fail
                      refine (GCt.out _).mono ?_
                      rintro e w7 ⟨rfl, hb7⟩
                      have HO7 : Hid (w7.ownsRow wq.heap.size 3 1 _ (List.range' nx i).length (is64 (nz (List.range' nx i)))) := own_below HOI.out hb7
                      have HB7 : Hid (Below wq.heap.size wq w7) := HBI.out.trans (hb7.mono HBI.out.size)
                      clear hb7 x3
                      by_cases hlt2 : i < ct
                      · have hsz := HB7.out.size
                        go_wp2_with (at_builtin
                                     refine wpList_append_int rfl (.tmp 86) (.tmp 88) rfl wq.heap.size _ (List.range' nx i) rfl (HO7.out.alloc _) w7.heap.size (nx + i) rfl (by rw [cell_of_row _ _ _ _ _ _ (heap_alloc_new w7 _)]; rfl) (by rw [List.length_range']; omega) (by simp; omega) ?_
                                     intro v' w8 hown8 hgr8
                                     have HO8 : Hid (w8.ownsRow wq.heap.size 3 1 v' (List.range' nx (i + 1)).length (is64 (nz (List.range' nx (i + 1))))) := by rw [List.range'_1_concat]; exact hown8
                                     have HB8 : Hid (Below wq.heap.size wq w8) := (HB7.out.alloc hsz _).grown hgr8 (by simp; omega) (fun k hk => (HO7.out.lt k hk).1)
                                     clear hown8 hgr8)
                        go_wp2
                        go_roundw
                        case rel => exact ⟨i + 1, by omega, by go_num, by go_num, HO8.out, HB8.out⟩
                        case measure => simp [intOf]; omega
                      · have hie : i = ct := by omega
                        subst hie
                        obtain ⟨A7, c7, rfl⟩ := own_slice HO7.out
                        have HI7 : Hid (IntsAt w7 A7 (nz (List.range' nx i))) := IntsAt.of_own HO7.out (by rw [nz_length])
                        have GT2 := Lib.hid (fun c w h => text_range (A := A7) (n := nx) (k := i) c (by omega) (may_range (by omega) (by omega)) w h)
                        rw [List.length_range']
                        have HOM : Hid (w7.ownsRow w5.heap.size 45 3 (.slice (some ⟨gm, 0, none⟩) l.length c2) l.length ((half l 5000 m).flatMap compCells)) := own_below HOQ.out HB7.out
                        have HBM : Hid (Below w5.heap.size w5 w7) := HBQ.out.trans (HB7.out.mono HBQ.out.size)
                        go_wp2_with fail
                        refine (GT2.out _ _ HI7.out).mono ?_
                        rintro e w8 ⟨rfl, hb8⟩
                        have HOM8 : Hid (w8.ownsRow w5.heap.size 45 3 (.slice (some ⟨gm, 0, none⟩) l.length c2) l.length ((half l 5000 m).flatMap compCells)) := own_below HOM.out hb8
                        have HBM8 : Hid (Below w5.heap.size w5 w8) := HBM.out.trans (hb8.mono HBM.out.size)
                        have hfz := HOM8.out.frozenAt (m * 3 + 2)
                        have hcl : w8.cell? ⟨gm, m * 3 + 2, none⟩ = some (.string (bstr tx)) := by
                          have hho : CompsAt w8 (some ⟨gm, 0, none⟩) (half l 5000 m) := CellsAt.of_own HOM8.out
                          obtain ⟨_, _, z2⟩ := hho.at_ (i := m) (by rw [half_len]; exact hlt)
                          rw [half_get hlt] at z2
                          simp only [HP.out] at z2
                          rw [Nat.zero_add] at z2
                          exact z2
                        have HST : Hid ((w8.setCell ⟨gm, m * 3 + 2, none⟩ (.string (bstr (E (List.range' nx i))))).ownsRow w5.heap.size 45 3 (.slice (some ⟨gm, 0, none⟩) l.length c2) l.length ((half l 5000 (m + 1)).flatMap compCells)) := by
                          have := (HOM8.out.stored (m * 3 + 2) (.string (bstr (E (List.range' nx i))))).1
                          rw [flat_set _ _ _ _ _ _ HGET.out, ← HH.out.1] at this
                          exact this
                        have HBS : Hid (Below w5.heap.size w5 (w8.setCell ⟨gm, m * 3 + 2, none⟩ (.string (bstr (E (List.range' nx i)))))) := HBM8.out.setCell (p := ⟨gm, m * 3 + 2, none⟩) HGM.out _
                        clear hb8
                        generalize bstr (E (List.range' nx i)) = Z at HST HBS ⊢
                        go_wp2
                        go_roundw
                        case rel => exact ⟨m + 1, by omega, by go_num, by rw [HH.out.2, ← Nat.add_assoc, HNX.out]; rfl, HST.out, HBS.out⟩
                        case measure => simp [intOf]; omega
                  · have g2 : (l[m].kind != 2) = true := bne_iff_ne.2 hk2
                    have hh := half_not (nx := 5000) hlt hk2
                    have HH := Lib.hid hh
                    clear hh hk2
                    generalize l[m].kind = kd at y0 g2
                    go_wp2
                    go_roundw
                    case rel => exact ⟨m + 1, by omega, by go_num, by rw [HH.out.2], by rw [HH.out.1]; exact HOQ.out, HBQ.out⟩
                    case measure => simp [intOf]; omega
                · have hml : m = l.length := by omega
                  subst hml
                  have ho2 := HOQ.out
                  rw [half_all] at ho2
                  have HLO := Lib.hid (lab_ok HOK.out (nx := 5000) (by omega) (by omega))
                  obtain ⟨_, hLb, hLi, hLs, hLo, hLl⟩ := lab_all l 5000 0 HOK.out.nrm.ch (by omega) (by have h1 := insN_out l HOK.out.wh; have h2 := HOK.out.out1; omega)
                  obtain ⟨L, HLE⟩ : ∃ x, Hid (lab l 5000 = x) := ⟨_, Lib.hid rfl⟩
                  rw [HLE.out] at ho2 HLO hLb hLi hLs hLo hLl
                  have hnr : ((List.range' 1000 k).length : Int) = rBase L := by rw [HLO.out.base, List.length_range', hLs, HIN.out]
                  have hde := dErr_ok HLO.out.check HSV.out hnr
                  have hdt := dTxt_ed HLO.out.check HSV.out hnr
                  have hym := ed_may L (List.range' 1000 k) HLO.out.wh HSV.out.may
                  have hyl := ed_length L (List.range' 1000 k) HLO.out.wh (by rw [List.length_range', hLs, HIN.out]; exact Nat.le_refl _)
                  have hsn := keeps_one (T1 := 5000) (T2 := 2000000) (by omega) L 1000 k ⟨0, 5000, 3000000⟩ HLO.out.wh hLb (by rw [hLs, HIN.out]; exact Nat.le_refl _) (by show 0 < 1000; omega) (by omega) (by show 5000 ≤ 5000; omega) (by show 5000 + insN L ≤ 2000000; have h1 := insN_out L HLO.out.wh; have h2 := HLO.out.out1; omega)
                  obtain ⟨ys, HYS⟩ : ∃ x, Hid (ed L (List.range' 1000 k) = x) := ⟨_, Lib.hid rfl⟩
                  rw [HYS.out] at hdt hym hyl hsn
                  have HSN := Lib.hid hsn.1
                  have HPUT : Hid ((ys.foldl (snStep 5000 2000000) ⟨0, 5000, 3000000⟩).i = 5000 + insN l) := by show _ = _; rw [hsn.2.1, hLi]
                  have HYL : Hid ((ys.length : Int) = keptS l + (insN l : Int)) := by show _ = _; rw [hyl, hLo]; exact out_kept l HOK.out.wh
                  have hyl2 : ys.length ≤ 2000 := by rw [hyl]; exact HLO.out.out1
                  have HYM := Lib.hid hym
                  have hsl : (E (List.range' 1000 k)).length ≤ 1200 := by
                    have := E_length_le4 (List.range' 1000 k)
                    rw [List.length_range'] at this
                    omega
                  have hLT := HLO.out.tlen
                  have hLG : ∀ y ∈ L, y.Good := by
                    intro y hy
                    rcases (HLO.out.wh y hy).cases with ⟨hk, hn, ht⟩ | ⟨hk, hn, ht⟩ | ⟨hk, hn, _, vs, hv⟩
                    · have hb1 := HLO.out.base1
                      have hin := in_le_mem hy
                      rw [in_one hk] at hin
                      exact ⟨by unfold Fit64; omega, by unfold Fit64; omega, by rw [ht]; exact ⟨by simp, by simp⟩⟩
                    · have hb1 := HLO.out.base1
                      have hin := in_le_mem hy
                      rw [in_three hk] at hin
                      exact ⟨by unfold Fit64; omega, by unfold Fit64; omega, by rw [ht]; exact ⟨by simp, by simp⟩⟩
                    · have := tlen_mem hy
                      exact ⟨by unfold Fit64; omega, by unfold Fit64; omega, hv.lt, by unfold maxLen; omega⟩
                  have hLf : Fine1 L := fine_of hLG (by omega)
                  have GD : Hid (∀ w, CompsAt w (some ⟨gm, 0, none⟩) L → Calls Try.prog 9 #[.string S, .slice (some ⟨gm, 0, none⟩) l.length c2] w fun e w' => e = .returned (.tuple #[.string (bstr (E ys)), .int .i64 0]) ∧ Below w.heap.size w w') := fun w h => by
                    have := apDo_any (E (List.range' 1000 k)) (some ⟨gm, 0, none⟩) c2 L HSV.out.lt (by omega) (by unfold maxLen; rw [hLl]; omega) hLf (by omega) w h
                    rw [hLl, HS.out] at this
                    refine this.mono ?_
                    rintro e w' ⟨hd, hb⟩
                    have h2 := hd.eq
                    rw [hde, hdt] at h2
                    exact ⟨h2, hb⟩
                  have HVY : Hid (V (E ys) ys) := V.mk hym
                  have hye : (E ys).length ≤ 8000 := by have := E_length_le4 ys; omega
                  have GP : Hid (∀ w, Calls Try.prog 22 #[.string (bstr (E ys))] w fun e w' => (∃ A c, e = .returned (.tuple #[.slice A ys.length c, .bool true]) ∧ IntsAt w' A (nz ys)) ∧ Below w.heap.size w w') := fun w => by
                    refine (refPoints_any (E ys) HVY.out.lt (by omega) w).mono ?_
                    rintro e w' ⟨⟨vs, hv, A, c, rfl, hi⟩ | ⟨hn, _⟩, hb⟩
                    · obtain rfl := hv.uniq HVY.out
                      rw [nz_length]
                      exact ⟨⟨A, c, rfl, hi⟩, hb⟩
                    · exact absurd ⟨_, HVY.out⟩ hn
                  have HCL : Hid (CompsAt wq (some ⟨gm, 0, none⟩) L) := CellsAt.of_own (by rw [hLl] at *; exact ho2)
                  have HWQ : Hid (Below w.heap.size w wq) := HW5.out.trans (HBQ.out.mono HW5.out.size)
                  have HAQ : Hid (CompsAt wq (some ⟨b0, off, none⟩) l) := HA.out.below HBQ.out
                  have HNXT : Hid (insN (l.take l.length) = insN l) := by show _ = _; rw [List.take_length]
                  rw [HNXT.out]
                  have hins : insN l ≤ 2000 := by have h1 := insN_out l HOK.out.wh; have h2 := HOK.out.out1; omega
                  clear hLb hLi hLs hLo hLl hnr hde hdt hym hyl hsn hsl hLT hLG hLf hye ho2
                  go_wp2_with fail
                  refine (GD.out _ HCL.out).mono ?_
                  rintro e w7 ⟨rfl, hb⟩
                  have HW7 : Hid (Below w.heap.size w w7) := HWQ.out.trans (hb.mono HWQ.out.size)
                  have HA7 : Hid (CompsAt w7 (some ⟨b0, off, none⟩) l) := HAQ.out.below hb
                  clear hb
                  go_wp2_with fail
                  refine (GP.out _).mono ?_
                  rintro e w8 ⟨⟨A8, c8, rfl, hi8⟩, hb⟩
                  have HI8 := Lib.hid hi8
                  have HW8 : Hid (Below w.heap.size w w8) := HW7.out.trans (hb.mono HW7.out.size)
                  have HA8 : Hid (CompsAt w8 (some ⟨b0, off, none⟩) l) := HA7.out.below hb
                  clear hb hi8
                  go_wp2
                  go_loopw [4, 18, 19, 20] (fun rs la pu j wr => ∃ i : Nat, i ≤ ys.length ∧ j = .int .i64 i ∧ rs = .bool false ∧ la = .int .i64 (((ys.take i).foldl (snStep 5000 2000000) ⟨0, 5000, 3000000⟩).last : Int) ∧ pu = .int .i64 (((ys.take i).foldl (snStep 5000 2000000) ⟨0, 5000, 3000000⟩).i : Int) ∧ w8 = wr) (fun _ _ _ j _ => ys.length - (intOf j).toNat)
                  case atStart => exact ⟨0, Nat.zero_le _, rfl, rfl, by rw [List.take_zero]; rfl, by rw [List.take_zero]; rfl, rfl⟩
                  case round =>
                    obtain ⟨i, hi, rfl, rfl, rfl, rfl, rfl⟩ := hrel
                    by_cases hlt3 : i < ys.length
                    · have hi8 := HI8.out
                      obtain ⟨b8, o8, rfl, _⟩ := hi8.form (by rw [nz_length]; omega)
                      have z0 := hi8.cell (j := i) (by rw [nz_length]; exact hlt3)
                      have hnzi : (nz ys)[i]'(by rw [nz_length]; exact hlt3) = (ys[i] : Int) := by
                        have h1 := nz_get ys i
                        rw [List.getElem?_eq_getElem (by rw [nz_length]; exact hlt3), List.getElem?_eq_getElem hlt3] at h1
                        exact Option.some.inj h1
                      rw [hnzi] at z0
                      obtain ⟨q1, q2, q3⟩ := HSN.out.at_ (List.getElem?_eq_getElem hlt3)
                      have hmay := (HYM.out _ (List.getElem_mem hlt3)).le
                      have hst : (ys.take (i + 1)).foldl (snStep 5000 2000000) ⟨0, 5000, 3000000⟩ = snStep 5000 2000000 ((ys.take i).foldl (snStep 5000 2000000) ⟨0, 5000, 3000000⟩) ys[i] := by
                        rw [List.take_succ_eq_append_getElem hlt3, List.foldl_append]; rfl
                      have HST := Lib.hid hst
                      obtain ⟨s, HSS⟩ : ∃ x, Hid ((ys.take i).foldl (snStep 5000 2000000) ⟨0, 5000, 3000000⟩ = x) := ⟨_, Lib.hid rfl⟩
                      rw [HSS.out] at q2 q3 HST ⊢
                      obtain ⟨sl, si, sk⟩ := s
                      simp only at q2 q3 ⊢
                      generalize ys[i] = v at z0 q2 q3 hmay HST
                      clear hi8 hnzi q1 hst
                      by_cases g5 : 5000 ≤ v
                      · have e1 := q2 g5 (by omega)
                        subst e1
                        have HS2 : Hid ((ys.take (i + 1)).foldl (snStep 5000 2000000) ⟨0, 5000, 3000000⟩ = ⟨sl, v + 1, sk⟩) := by show _ = _; rw [HST.out, snStep, if_neg (by omega), if_pos (by omega)]
                        clear q2 q3
                        go_wp2
                        go_roundw
                        case rel => exact ⟨i + 1, by omega, by go_num, rfl, by rw [HS2.out], by rw [HS2.out]; rfl, trivial⟩
                        case measure => simp [intOf]; omega
                      · have e1 := q3 (by omega)
                        have HS2 : Hid ((ys.take (i + 1)).foldl (snStep 5000 2000000) ⟨0, 5000, 3000000⟩ = ⟨v, si, sk⟩) := by show _ = _; rw [HST.out, snStep, if_neg (by omega), if_neg (by omega)]
                        clear q2 q3
                        go_wp2
                        go_roundw
                        case rel => exact ⟨i + 1, by omega, by go_num, rfl, by rw [HS2.out], by rw [HS2.out], trivial⟩
                        case measure => simp [intOf]; omega
                    · have hie : ys.take i = ys := List.take_of_length_le (by omega)
                      rw [hie, HPUT.out]
                      obtain ⟨la, HLA⟩ : ∃ x, Hid ((ys.foldl (snStep 5000 2000000) ⟨0, 5000, 3000000⟩).last = x) := ⟨_, Lib.hid rfl⟩
                      rw [HLA.out]
                      obtain ⟨I, HII⟩ : ∃ x, Hid (insN l = x) := ⟨_, Lib.hid rfl⟩
                      have HYL2 := HYL.out
                      rw [HII.out] at HYL2 hins ⊢
                      have HKT : Hid (∀ j, 0 ≤ keptS (l.take j) ∧ keptS (l.take j) ≤ 2000) := fun j => by
                        have h1 := kept_take HOK.out.wh j
                        have h2 := inS_take_le l j
                        have h3 := HOK.out.base1
                        omega
                      have HYL3 := Lib.hid HYL2
                      clear HYL2
                      go_wp2
                      go_loopw [21, 22] (fun q j wr => ∃ m : Nat, m ≤ l.length ∧ j = .int .i64 m ∧ q = .int .i64 (keptS (l.take m)) ∧ w8 = wr) (fun _ j _ => l.length - (intOf j).toNat)
                      case atStart => exact ⟨0, Nat.zero_le _, rfl, by rw [List.take_zero]; rfl, rfl⟩
                      case round =>
                        obtain ⟨m, hm, rfl, rfl, rfl⟩ := hrel
                        by_cases hlt4 : m < l.length
                        · obtain ⟨x0, x1, _⟩ := HA8.out.at_ hlt4
                          have HSK := Lib.hid (show keptS (l.take (m + 1)) = if l[m].kind = 1 then keptS (l.take m) + l[m].n else keptS (l.take m) by rw [List.take_succ_eq_append_getElem hlt4, keptS_snoc])
                          obtain ⟨z, HZ⟩ : ∃ z, Hid (keptS (l.take m) = z) := ⟨_, Lib.hid rfl⟩
                          have hkt1 := HKT.out m
                          have hkt2 := HKT.out (m + 1)
                          rw [HSK.out] at hkt2
                          rw [HZ.out] at hkt1 hkt2 HSK ⊢
                          generalize l[m] = y at x0 x1 HSK hkt2
                          obtain ⟨kd, nn, tx⟩ := y
                          simp only at x0 x1 hkt2
                          by_cases g1 : kd = 1
                          · subst g1
                            have HS2 : Hid (keptS (l.take (m + 1)) = z + nn) := by show _ = _; rw [HSK.out, if_pos rfl]
                            rw [if_pos rfl] at hkt2
                            clear HSK
                            go_wp2
                            go_roundw
                            case rel => exact ⟨m + 1, by omega, by go_num, by rw [HS2.out], trivial⟩
                            case measure => simp [intOf]; omega
                          · have g2 : (kd == 1) = false := beq_eq_false_iff_ne.2 g1
                            have HS2 : Hid (keptS (l.take (m + 1)) = z) := by show _ = _; rw [HSK.out, if_neg g1]
                            clear HSK hkt2 g1
                            go_wp2
                            go_roundw
                            case rel => exact ⟨m + 1, by omega, by go_num, by rw [HS2.out], trivial⟩
                            case measure => simp [intOf]; omega
                        · have hke : l.take m = l := List.take_of_length_le (by omega)
                          rw [hke]
                          obtain ⟨z, HZ⟩ : ∃ z, Hid (keptS l = z) := ⟨_, Lib.hid rfl⟩
                          have hyl3 := HYL3.out
                          have hz1 := HKT.out l.length
                          rw [List.take_length] at hz1
                          rw [HZ.out] at hyl3 hz1 ⊢
                          have e9 : ((ys.length : Int) == z + ((5000 + I : Nat) : Int) - 5000) = true := beq_iff_eq.2 (by omega)
                          have e9' : ((ys.length : Int) == z + (5000 + (I : Int)) - 5000) = true := beq_iff_eq.2 (by omega)
                          clear hyl3
                          go_wp2_with fail
                          refine (GA.out _).mono ?_
                          rintro e w9 ⟨rfl, hb⟩
                          have HW9 : Hid (Below w.heap.size w w9) := HW8.out.trans (hb.mono HW8.out.size)
                          clear hb
                          go_wp2
                          go_ret
                          exact ⟨rfl, HW9.out⟩
      · obtain ⟨p, HP⟩ : ∃ p, Hid (rBase l = p) := ⟨_, Lib.hid rfl⟩
        rw [HP.out] at GB hbn
        rw [hz] at GC
        have hp : (p != (N : Int)) = true := bne_iff_ne.2 hbn
        clear hbn hz
        go_enter Try.func5, Try.ntmps5
        go_wp2_with fail
        refine (GW.out _ HA.out).mono ?_
        rintro e w1 ⟨rfl, hb⟩
        have HW1 : Hid (Below w.heap.size w w1) := HW0.out.trans (hb.mono HW0.out.size)
        replace HA := Lib.hid (HA.out.below hb)
        clear hb
        go_wp2_with fail
        refine (GC.out _ HA.out).mono ?_
        rintro e w2 ⟨rfl, hb⟩
        have HW2 : Hid (Below w.heap.size w w2) := HW1.out.trans (hb.mono HW1.out.size)
        replace HA := Lib.hid (HA.out.below hb)
        clear hb
        go_wp2_with fail
        refine (GB.out _ HA.out).mono ?_
        rintro e w3 ⟨rfl, hb⟩
        have HW3 : Hid (Below w.heap.size w w3) := HW2.out.trans (hb.mono HW2.out.size)
        replace HA := Lib.hid (HA.out.below hb)
        clear hb
        go_wp2_with fail
        refine (GA.out _).mono ?_
        rintro e w4 ⟨rfl, hb⟩
        have HW4 : Hid (Below w.heap.size w w4) := HW3.out.trans (hb.mono HW3.out.size)
        replace HA := Lib.hid (HA.out.below hb)
        clear hb
        go_wp2
        go_ret
        exact ⟨rfl, HW4.out⟩
    · obtain ⟨q, HQ⟩ : ∃ q, Hid (rCheck l = q) := ⟨_, Lib.hid rfl⟩
      rw [HQ.out] at GC hz
      have hq : ((q : Int) != 0) = true := bne_iff_ne.2 (by omega)
      clear hz
      go_enter Try.func5, Try.ntmps5
      go_wp2_with fail
      refine (GW.out _ HA.out).mono ?_
      rintro e w1 ⟨rfl, hb⟩
      have HW1 : Hid (Below w.heap.size w w1) := HW0.out.trans (hb.mono HW0.out.size)
      replace HA := Lib.hid (HA.out.below hb)
      clear hb
      go_wp2_with fail
      refine (GC.out _ HA.out).mono ?_
      rintro e w2 ⟨rfl, hb⟩
      have HW2 : Hid (Below w.heap.size w w2) := HW1.out.trans (hb.mono HW1.out.size)
      replace HA := Lib.hid (HA.out.below hb)
      clear hb
      go_wp2_with fail
      refine (GA.out _).mono ?_
      rintro e w3 ⟨rfl, hb⟩
      have HW3 : Hid (Below w.heap.size w w3) := HW2.out.trans (hb.mono HW2.out.size)
      replace HA := Lib.hid (HA.out.below hb)
      clear hb
      go_wp2
      go_ret
      exact ⟨rfl, HW3.out⟩
  · have h3' : 2000 < T := by omega
    clear h3
    go_enter Try.func5, Try.ntmps5
    go_wp2_with fail
    refine (GW.out _ HA.out).mono ?_
    rintro e w1 ⟨rfl, hb⟩
    have HW1 : Hid (Below w.heap.size w w1) := HW0.out.trans (hb.mono HW0.out.size)
    replace HA := Lib.hid (HA.out.below hb)
    clear hb
    go_wp2_with fail
    refine (GA.out _).mono ?_
    rintro e w2 ⟨rfl, hb⟩
    have HW2 : Hid (Below w.heap.size w w2) := HW1.out.trans (hb.mono HW1.out.size)
    replace HA := Lib.hid (HA.out.below hb)
    clear hb
    go_wp2
    go_ret
    exact ⟨rfl, HW2.out⟩
end Go.Proofs.Ytfbkdabnbddgpaa

/- ApplyKeeps holds: each character that an edit keeps stands there once, in its order; each that it puts in, too; those that it deletes are gone: whatever the law is called with: it answers true and changes nothing. No condition. -/
namespace Go.Proofs.Ytfbkdabnbddgpaa
open Go.ChangeShapes Go.WideShapes Go.ChangeAt Go.RowKit

set_option maxRecDepth 100000 in
theorem applyKeeps_lifted (os : Os) (started : os.Started) (H : Type) (enc : TypeId × Value → H) :
    ReturnsInHanded {} Try.checked os 5 .any (Rows.applyKeepsSpec.pre6 enc Try.prog Try.f5 Rows.applyKeepsRow.domain false) (Rows.applyKeepsSpec.post enc Try.prog Try.f5 false true false false) := by
  refine returnsInHanded_of_change (C := Try.checked) law_own started (by kernel_rfl) Try.func5
    (ChangeSpec.witness6 (enc := enc) (C := Try.checked) false ⟨#[], #[.int .i64 0, .slice none 0 0], []⟩ 8 (by kernel_rfl) (by kernel_rfl) (by kernel_rfl) (by kernel_rfl)) ?_
  intro W base args ds gs before hval0 hW _ _
  have hval : ∀ (j : Nat) t v, Try.f5.params[j]? = some t → args[j]? = some v → Value.okWide Try.prog W .any base t v := hval0
  have hW' := hW
  obtain ⟨p, q, hA0, hV, rfl, _, _⟩ := hW
  have hlt : ∀ x ∈ p ++ q, x.block < W.heap.size := fun x hx => hW'.lt x hx
  have hA : DataW.TrodAll enc Try.prog W 0 (fun _ => true) true Try.f5.params.toList args.toList ds p := hA0
  rw [Try.params5] at hA hval
  obtain ⟨v0, v1, d0, d1, p0, p1, rfl, rfl, rfl, h0, h1⟩ := trodAll_two hA
  obtain ⟨rfl, rfl⟩ := trodVars_none hV
  obtain ⟨n0, rfl, rfl, rfl, hw0⟩ := open_int Try.underlying3 (hval 0 3 v0 rfl rfl) h0
  have hn0 : -9223372036854775808 ≤ n0 ∧ n0 ≤ 9223372036854775807 := by simpa [Lit.wf, IntKind.min, IntKind.max, IntKind.signed, IntKind.bits] using hw0
  obtain ⟨A1, l1, c1, rfl, hat1, hg1, hlc1, hc1⟩ := open_comps (hval 1 22 v1 rfl rfl) h1 (fun x hx => hlt x (by simp [hx]))
  have hl1 : l1.length ≤ maxLen := by omega
  clear hA0 hval0
  refine (applyKeeps_any n0 A1 l1 c1 hn0 hl1 hg1 W hat1).mono fun e W' ⟨he, hb⟩ => ?_
  exact ⟨_, he, law_post law_laid (by kernel_rfl) (by kernel_rfl) Try.underlying4 rfl hW' rfl hb⟩

theorem applyKeeps_holds : Rows.ApplyKeepsSaid :=
  OpenClaim.holds_of_wide 5 Try.f5 rfl rfl rfl rfl rfl rfl rfl ⟨rfl, rfl, rfl, rfl, rfl⟩ rfl rfl rfl rfl rfl (by kernel_rfl) Try.func5 (by kernel_rfl)
    (of_decide_eq_true (by kernel_rfl)) (by unfold Func.isWrapper; first | (rw [if_pos (by decide +kernel)]; kernel_rfl) | (rw [if_neg (by decide +kernel)]; exact ⟨rfl, rfl⟩))
    (fun os started H enc _ => applyKeeps_lifted os started H enc)
end Go.Proofs.Ytfbkdabnbddgpaa
