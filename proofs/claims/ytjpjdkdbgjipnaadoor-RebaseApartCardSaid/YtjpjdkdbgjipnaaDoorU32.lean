/- The contract of alike.Nodes: called with any nodes it answers their weight, held at a limit; what was there stays as it was. Condition: no slice and no text is longer than memory. (Merged of 15 texts.) -/
import Derived.Test.YtjpjdkdbgjipnaaDoorU37
import Derived.Test.YtjpjdkdbgjipnaaDoorU5
import Derived.Test.YtjpjdkdbgjipnaaDoorU9
import Derived.Test.YtjpjdkdbgjipnaaDoorU12
import Derived.Test.YtjpjdkdbgjipnaaDoorU36
import Derived.Test.YtjpjdkdbgjipnaaDoorU1
import Derived.Test.YtjpjdkdbgjipnaaDoorU24
namespace Go.Proofs.YtjpjdkdbgjipnaaDoor
open Go.RowKit Go.Deep
structure Held1 (l : List CompV) : Prop where
 good : ∀ y ∈ l, y.Good
 len : l.length ≤ 1073741824
 text : tlen l ≤ 1073741824
theorem Held1.fine {l : List CompV} (h : Held1 l) : Fine1 l := fun y hy => ⟨h.good y hy, by have := yy327 hy; have := h.text; omega⟩
theorem yy118 : Held1 [] := ⟨fun y hy => (by cases hy), Nat.zero_le _, Nat.zero_le _⟩
theorem Held1.max {l : List CompV} (h : Held1 l) : l.length ≤ maxLen := by have := h.len; unfold maxLen; omega
theorem yy591 {l : List CompV} (hg : ∀ y ∈ l, y.Good) {k : Nat} (h : 2 * l.length + tlen l ≤ k) (hk : k ≤ 1073741824) : Held1 l := ⟨hg, by omega, by omega⟩
end Go.Proofs.YtjpjdkdbgjipnaaDoor
namespace Go.Proofs.YtjpjdkdbgjipnaaDoor
inductive Ov (f : Bool) : List CompV → List CompV → List CompV → Prop
 | nil : Ov f [] [] []
 | puts (c : CompV) (a b o : List CompV) : c.kind = 2 → (f = true ∨ kd b ≠ 2) → Ov f a b o → Ov f (c :: a) b (c :: o)
 | pass (a : List CompV) (d : CompV) (b o : List CompV) : ¬ (kd a = 2 ∧ f = true) → d.kind = 2 → Ov f a b o → Ov f a (d :: b) (⟨1, (sz d : Int), []⟩ :: o)
 | both (c : CompV) (a : List CompV) (d : CompV) (b o : List CompV) (n : Nat) : c.kind ≠ 2 → d.kind ≠ 2 → n = min (sz c) (sz d) → Ov f (chop c a n) (chop d b n) o →
   Ov f (c :: a) (d :: b) ((if d.kind = 1 then [piece c n] else []) ++ o)
theorem yy755 {n : Nat} (h : 0 < n) : Wh ⟨1, (n : Int), []⟩ := .inl ⟨.inl rfl, by show (1 : Int) ≤ n; omega, rfl⟩
structure Chopped (c d p q : CompV) (a b a' b' : List CompV) (n : Nat) : Prop where
 pos : 0 < n
 ea : ∀ vs, ed (c :: a) vs = ed (p :: a') vs
 eb : ∀ vs, ed (d :: b) vs = ed (q :: b') vs
 ia : inS (c :: a) = n + inS a'
 ib : inS (d :: b) = n + inS b'
 oa : outS (c :: a) = outN p + outS a'
 ob : outS (d :: b) = outN q + outS b'
 wa : ∀ x ∈ a', Wh x
 wb : ∀ x ∈ b', Wh x
 wp : Wh p
 wq : Wh q
 kp : p.kind = c.kind
 kq : q.kind = d.kind
 np : p.n.toNat = n
 nq : q.n.toNat = n
theorem yy482 {c d : CompV} {a b : List CompV} {n : Nat} (hc2 : c.kind ≠ 2) (hd2 : d.kind ≠ 2) (hn : n = min (sz c) (sz d)) (ha : ∀ x ∈ c :: a, Wh x) (hb : ∀ x ∈ d :: b, Wh x) :
  Chopped c d (piece c n) (piece d n) a b (chop c a n) (chop d b n) n := by
 have wc := ha c (by simp)
 have wd := hb d (by simp)
 have hc0 := wc.sz; have hd0 := wd.sz
 obtain ⟨c1, c2, c3, c4⟩ := yy753 wc a (n := n) (by omega) (by omega)
 obtain ⟨d1, d2, d3, d4⟩ := yy753 wd b (n := n) (by omega) (by omega)
 have pc := yy331 wc (n := n) (by omega) (by omega)
 have pd := yy331 wd (n := n) (by omega) (by omega)
 have kc := yy260 c n
 have kq := yy260 d n
 have np : (piece c n).n.toNat = n := by have := pc.2; rwa [sz_not (by omega)] at this
 have nq : (piece d n).n.toNat = n := by have := pd.2; rwa [sz_not (by omega)] at this
 have ip : inN (piece c n) = n := by rw [inN, if_neg (by omega), np]
 have iq : inN (piece d n) = n := by rw [inN, if_neg (by omega), nq]
 rw [ip] at c2
 rw [iq] at d2
 exact ⟨by omega, c1, d1, c2, d2, c3, d3, c4 fun x hx => ha x (List.mem_cons_of_mem _ hx), d4 fun x hx => hb x (List.mem_cons_of_mem _ hx), pc.1, pd.1, kc, kq, np, nq⟩
theorem Wh.kind13 {c : CompV} (h : Wh c) (h2 : c.kind ≠ 2) : c.kind = 1 ∨ c.kind = 3 := by
 rcases h.cases with g | g | g <;> omega
theorem Ov.wh {f : Bool} {a b o : List CompV} (h : Ov f a b o) : (∀ x ∈ a, Wh x) → (∀ x ∈ b, Wh x) → inS a = inS b → (∀ x ∈ o, Wh x) ∧ inS o = outS b := by
 induction h with
 | nil => exact fun _ _ _ => ⟨fun x hx => (by cases hx), by rw [yy86, yy414]⟩
 | puts c a b o hk _ _ ih =>
  intro ha hb hn
  rw [yy32, in_two hk, Nat.zero_add] at hn
  have i := ih (fun x hx => ha x (List.mem_cons_of_mem _ hx)) hb hn
  exact ⟨yy580 (ha c (by simp)) i.1, by rw [yy32, in_two hk, i.2, Nat.zero_add]⟩
 | pass a d b o _ hk _ ih =>
  intro ha hb hn
  rw [yy32, in_two hk, Nat.zero_add] at hn
  have i := ih ha (fun x hx => hb x (List.mem_cons_of_mem _ hx)) hn
  exact ⟨yy580 (yy755 (hb d (by simp)).sz) i.1, by rw [yy32, in_one rfl, i.2, yy69, yy185 hk, ← sz_two hk]; rfl⟩
 | both c a d b o n h1 h2 hmin _ ih =>
  intro ha hb hn
  have k := yy482 (a := a) (b := b) h1 h2 hmin ha hb
  have hia := k.ia; have hib := k.ib
  have i := ih k.wa k.wb (by omega)
  have hob := k.ob
  by_cases hd : d.kind = 1
  ·rw [if_pos hd, List.singleton_append]
   have e1 : outN (piece d n) = n := by rw [yy258 (by rw [k.kq]; exact hd), k.nq]
   exact ⟨yy580 k.wp i.1, by rw [yy32, i.2, hob, e1, inN, if_neg (by rw [k.kp]; exact h1), k.np]⟩
  ·rw [if_neg hd, List.nil_append]
   have hd3 : d.kind = 3 := by rcases (hb d (by simp)).kind13 h2 with g | g <;> omega
   have e1 : outN (piece d n) = 0 := yy146 (by rw [k.kq]; exact hd3)
   exact ⟨i.1, by rw [i.2, hob, e1, Nat.zero_add]⟩
theorem Ov.meets {f : Bool} {a b p : List CompV} (h : Ov f a b p) : ∀ {q : List CompV}, Ov (!f) b a q → (∀ x ∈ a, Wh x) → (∀ x ∈ b, Wh x) → inS a = inS b → ∀ vs : List Nat, vs.length = inS a → ed p (ed b vs) = ed q (ed a vs) := by
 induction h with
 | nil =>
  intro q hq _ _ _ vs _
  cases hq
  rfl
 | puts c a b o hk hf _ ih =>
  intro q hq ha hb hn vs hv
  rw [yy32, in_two hk, Nat.zero_add] at hn hv
  have ha' := fun x hx => ha x (List.mem_cons_of_mem _ hx)
  have hz : (cps c.text).length = sz c := (sz_two hk).symm
  cases hq with
  | puts d _ _ _ g gf _ =>
   exfalso
   rcases gf with gf | gf
   ·rcases hf with hf | hf
    ·rw [hf] at gf; cases gf
    ·exact hf g
   ·exact gf hk
  | pass _ _ _ o2 g g2 hq =>
   rw [ed_two hk, ed_two hk, ed_one rfl]
   simp only [Int.toNat_natCast]
   rw [← hz, List.take_left' rfl, List.drop_left' rfl, ih hq ha' hb hn vs hv]
  | both _ _ _ _ _ _ _ g => exact absurd hk g
 | pass a d b o hf hk _ ih =>
  intro q hq ha hb hn vs hv
  rw [yy32, in_two hk, Nat.zero_add] at hn
  have hb' := fun x hx => hb x (List.mem_cons_of_mem _ hx)
  have hz : (cps d.text).length = sz d := (sz_two hk).symm
  cases hq with
  | puts _ _ _ o2 g gf hq =>
   rw [ed_two hk, ed_two hk, ed_one rfl]
   simp only [Int.toNat_natCast]
   rw [← hz, List.take_left' rfl, List.drop_left' rfl, ih hq ha hb' hn vs hv]
  | pass _ c _ _ g g2 _ =>
   exfalso
   have : ¬ (f = true) := fun e => hf ⟨g2, e⟩
   refine g ⟨hk, ?_⟩
   cases f
   ·rfl
   ·exact absurd rfl this
  | both _ _ _ _ _ _ g => exact absurd hk g
 | both c a d b o n h1 h2 hmin _ ih =>
  intro q hq ha hb hn vs hv
  have k := yy482 (a := a) (b := b) h1 h2 hmin ha hb
  have hia := k.ia; have hib := k.ib; have hnp := k.np; have hnq := k.nq; have hkp := k.kp; have hkq := k.kq; have h0 := k.pos
  have hc13 := (ha c (by simp)).kind13 h1
  have hd13 := (hb d (by simp)).kind13 h2
  cases hq with
  | puts _ _ _ _ g => exact absurd g h2
  | pass _ _ _ _ _ g => exact absurd g h1
  | both _ _ _ _ o2 m _ _ hm hq =>
   have hmn : m = n := by omega
   subst hmn
   have e := fun vs hv => ih hq k.wa k.wb (by omega) vs hv
   rw [k.ea, k.eb]
   have hl : (vs.take m).length = m := by rw [List.length_take]; omega
   have e' := e (vs.drop m) (by rw [List.length_drop]; omega)
   generalize piece c m = p at *
   generalize piece d m = q at *
   rcases hc13 with gc | gc <;> rcases hd13 with gd | gd
   ·rw [if_pos gd, if_pos gc, List.singleton_append, List.singleton_append, ed_one (hkp.trans gc), ed_one (hkq.trans gd), ed_one (hkp.trans gc), ed_one (hkq.trans gd), hnp, hnq, List.take_left' hl, List.drop_left' hl, List.take_left' hl, List.drop_left' hl, e']
   ·rw [if_neg (by omega), if_pos gc, List.nil_append, List.singleton_append, yy74 (hkq.trans gd), ed_one (hkp.trans gc), yy74 (hkq.trans gd), hnp, hnq, List.drop_left' hl, e']
   ·rw [if_pos gd, if_neg (by omega), List.nil_append, List.singleton_append, yy74 (hkp.trans gc), ed_one (hkq.trans gd), yy74 (hkp.trans gc), hnp, hnq, List.drop_left' hl, e']
   ·rw [if_neg (by omega), if_neg (by omega), List.nil_append, List.nil_append, yy74 (hkp.trans gc), yy74 (hkq.trans gd), hnp, hnq, e']
theorem Ov.one {f : Bool} {a b o : List CompV} (h : Ov f a b o) : ∀ {o' : List CompV}, Ov f a b o' → o = o' := by
 induction h with
 | nil => intro o' h'; cases h'; rfl
 | puts c a b o hk hf _ ih =>
  intro o' h'
  cases h' with
  | puts _ _ _ o2 _ _ g => rw [ih g]
  | pass _ _ _ _ g g2 =>
   exfalso
   rcases hf with hf | hf
   ·exact g ⟨hk, hf⟩
   ·exact hf g2
  | both _ _ _ _ _ _ g => exact absurd hk g
 | pass a d b o hf hk _ ih =>
  intro o' h'
  cases h' with
  | puts _ _ _ o2 g gf =>
   exfalso
   rcases gf with gf | gf
   ·exact hf ⟨g, gf⟩
   ·exact gf hk
  | pass _ _ _ _ _ _ g => rw [ih g]
  | both _ _ _ _ _ _ _ g => exact absurd hk g
 | both c a d b o n h1 h2 hmin _ ih =>
  intro o' h'
  cases h' with
  | puts _ _ _ o2 g => exact absurd g h1
  | pass _ _ _ _ _ g => exact absurd g h2
  | both _ _ _ _ _ m _ _ hm g => subst hmin; subst hm; rw [ih g]
noncomputable def cmpOf (a b : List CompV) : List CompV := @dite _ (∃ o, Cmp a b o) (Classical.propDecidable _) (fun h => Classical.choose h) (fun _ => [])
theorem yy801 {a b o : List CompV} (h : Cmp a b o) : cmpOf a b = o := by
 unfold cmpOf
 rw [dif_pos ⟨o, h⟩]
 exact Cmp.one (Classical.choose_spec (⟨o, h⟩ : ∃ o, Cmp a b o)) h
noncomputable def ovOf (f : Bool) (a b : List CompV) : List CompV := @dite _ (∃ o, Ov f a b o) (Classical.propDecidable _) (fun h => Classical.choose h) (fun _ => [])
theorem yy856 {f : Bool} {a b o : List CompV} (h : Ov f a b o) : ovOf f a b = o := by
 unfold ovOf
 rw [dif_pos ⟨o, h⟩]
 exact Ov.one (Classical.choose_spec (⟨o, h⟩ : ∃ o, Ov f a b o)) h
noncomputable def rTwo (a b : List CompV) : List CompV × Nat :=
 if rCheck a ≠ 0 then ([], rCheck a) else if rCheck b ≠ 0 then ([], rCheck b) else if rOut a ≠ rBase b then ([], 11) else (yy38 (cmpOf a b), 0)
noncomputable def rOver (f : Bool) (a b : List CompV) : List CompV × Nat :=
 if rCheck a ≠ 0 then ([], rCheck a) else if rCheck b ≠ 0 then ([], rCheck b) else if rBase a ≠ rBase b then ([], 11) else (yy38 (ovOf f a b), 0)
noncomputable def yy802 (s : List CompV × Nat) (x : List CompV) : List CompV × Nat := if s.2 ≠ 0 then s else rTwo s.1 x
noncomputable def rAll (s : List CompV × Nat) (l : List (List CompV)) : List CompV × Nat := l.foldl yy802 s
theorem yy690 {f : Bool} {a b : List CompV} (h : (rOver f a b).2 ≠ 0) : (rOver f a b).1 = [] := by
 unfold rOver at h ⊢
 split
 ·rfl
 ·split
  ·rfl
  ·split
   ·rfl
   ·rename_i h1 h2 h3
    rw [if_neg h1, if_neg h2, if_neg h3] at h
    exact absurd rfl h
theorem rTwo_yes {a b o : List CompV} (ha : rCheck a = 0) (hb : rCheck b = 0) (he : rOut a = rBase b) (h : Cmp a b o) : rTwo a b = (yy38 o, 0) := by
 rw [rTwo, if_neg (by omega), if_neg (by omega), if_neg (by omega), yy801 h]
theorem yy342 {f : Bool} {a b o : List CompV} (ha : rCheck a = 0) (hb : rCheck b = 0) (he : rBase a = rBase b) (h : Ov f a b o) : rOver f a b = (yy38 o, 0) := by
 rw [rOver, if_neg (by omega), if_neg (by omega), if_neg (by omega), yy856 h]
attribute [irreducible] cmpOf ovOf rTwo rOver rAll
end Go.Proofs.YtjpjdkdbgjipnaaDoor
namespace Go.Proofs.YtjpjdkdbgjipnaaDoor
open Go.RowKit Go.Deep
open Classical in
noncomputable def dErr (t : List Nat) (l : List CompV) : Nat := if rCheck l ≠ 0 then rCheck l else if ¬ ∃ vs, V t vs then 2 else if ((cps t).length : Int) ≠ rBase l then 11 else 0
noncomputable def dTxt (t : List Nat) (l : List CompV) : List Nat := if dErr t l = 0 then (doRun (cps t) l).2 else []
theorem yy381 {t : List Nat} {l : List CompV} (h : rCheck l ≠ 0) : dErr t l = rCheck l := by rw [dErr, if_pos h]
theorem yy605 {t : List Nat} {l : List CompV} (h : rCheck l = 0) (hv : ¬ ∃ vs, V t vs) : dErr t l = 2 := by rw [dErr, if_neg (by simp [h]), if_pos hv]
theorem yy487 {t vs : List Nat} {l : List CompV} (h : rCheck l = 0) (hv : V t vs) (hn : (vs.length : Int) ≠ rBase l) : dErr t l = 11 := by
 rw [dErr, if_neg (by simp [h]), if_neg (fun hh => hh ⟨vs, hv⟩), cps_of hv, if_pos hn]
theorem yy606 {t vs : List Nat} {l : List CompV} (h : rCheck l = 0) (hv : V t vs) (hn : (vs.length : Int) = rBase l) : dErr t l = 0 := by
 rw [dErr, if_neg (by simp [h]), if_neg (fun hh => hh ⟨vs, hv⟩), cps_of hv, if_neg (by simp [hn])]
theorem yy156 {t : List Nat} {l : List CompV} (h : dErr t l = 0) : rCheck l = 0 ∧ ∃ vs, V t vs ∧ (vs.length : Int) = rBase l := by
 by_cases h1 : rCheck l = 0
 ·by_cases h2 : ∃ vs, V t vs
  ·obtain ⟨vs, hv⟩ := h2
   by_cases h3 : (vs.length : Int) = rBase l
   ·exact ⟨h1, vs, hv, h3⟩
   ·rw [yy487 h1 hv h3] at h; cases h
  ·rw [yy605 h1 h2] at h; cases h
 ·rw [yy381 h1] at h; exact absurd h h1
theorem DoEnd.eq {t : List Nat} {l : List CompV} {e : Ending} (h : DoEnd t l e) : e = .returned (.tuple #[.string (bstr (dTxt t l)), .int .i64 (dErr t l : Int)]) := by
 rcases h with ⟨hz, rfl⟩ | ⟨hz, hv, rfl⟩ | ⟨hz, vs, hv, ⟨hne, rfl⟩ | ⟨heq, rfl⟩⟩
 ·rw [dTxt, yy381 hz, if_neg hz]; rfl
 ·rw [dTxt, yy605 hz hv, if_neg (by decide)]; rfl
 ·rw [dTxt, yy487 hz hv hne, if_neg (by decide)]; rfl
 ·rw [dTxt, yy606 hz hv heq, if_pos rfl, cps_of hv]; rfl
theorem yy382 {s x : List Nat} {l : List CompV} (hz : rCheck l = 0) (hx : V s x) (hn : (x.length : Int) = rBase l) : dTxt s l = E (ed l x) := by
 rw [dTxt, if_pos (yy606 hz hx hn), cps_of hx, yy787 x (ok_of hz).wh]
theorem yy383 (s : List Nat) (l : List CompV) : (∀ y ∈ dTxt s l, y < 256) ∧ (dTxt s l).length ≤ 8000 := by
 by_cases h : dErr s l = 0
 ·obtain ⟨hz, x, hx, hn⟩ := yy156 h
  have hok := ok_of hz
  have hb := hok.base
  have hlen := yy147 l x hok.wh (by omega)
  have ho := hok.out1
  have he := yy421 (ed l x)
  rw [yy382 hz hx hn]
  exact ⟨E_lt (ed_may l x hok.wh hx.may), by omega⟩
 ·rw [dTxt, if_neg h]
  exact ⟨by simp, by simp⟩
end Go.Proofs.YtjpjdkdbgjipnaaDoor
namespace Go.Proofs.YtjpjdkdbgjipnaaDoor
def rAt (l : List NodeV) (id : Int) : Nat := (l.takeWhile fun y => decide (y.id < id)).length
theorem rAt_le (l : List NodeV) (id : Int) : rAt l id ≤ l.length := (List.takeWhile_sublist _).length_le
theorem rAt_lt {l : List NodeV} {id : Int} {k : Nat} (hk : k < rAt l id) : ∃ h : k < l.length, l[k].id < id := by
 have h := Nat.lt_of_lt_of_le hk (rAt_le l id)
 refine ⟨h, ?_⟩
 have hp : (l.takeWhile fun y => decide (y.id < id)) <+: l := List.takeWhile_prefix _
 have e : (l.takeWhile fun y => decide (y.id < id))[k]'hk = l[k] := hp.getElem hk
 have := List.all_takeWhile (p := fun y => decide (y.id < id)) (l := l)
 rw [List.all_eq_true] at this
 have h2 := this _ (List.getElem_mem hk)
 rw [e] at h2
 exact of_decide_eq_true h2
theorem rAt_ge {l : List NodeV} {id : Int} (hk : rAt l id < l.length) : ¬ l[rAt l id].id < id := by
 intro h
 have e : ∀ (l : List NodeV) (hk : rAt l id < l.length), l[rAt l id].id < id → False := by
  intro l
  induction l with
  | nil => intro hk; simp at hk
  | cons y l ih =>
   intro hk h
   by_cases hy : y.id < id
   ·have hr : rAt (y :: l) id = rAt l id + 1 := by unfold rAt; rw [List.takeWhile_cons, if_pos (decide_eq_true hy)]; rfl
    simp only [hr, List.getElem_cons_succ] at h
    exact ih (by rw [hr] at hk; simpa using hk) h
   ·have hr : rAt (y :: l) id = 0 := by unfold rAt; rw [List.takeWhile_cons, if_neg (by simpa using hy)]; rfl
    simp only [hr, List.getElem_cons_zero] at h
    exact hy h
 exact e l hk h
def yy96 (a : ActV) : NodeV := ⟨a.id, a.parent, a.name, a.dir, []⟩
def IdOk (id : Int) : Prop := 1 ≤ id ∧ id ≤ 1099511627776
open Classical in
noncomputable def rDo (l : List NodeV) (a : ActV) : List NodeV × Int :=
 if a.kind = 1 then
  if ¬ (IdOk a.id ∧ IsName a.name) then (l, 1)
  else if rFind l a.id ≠ none then (l, 6)
  else if rPlace l a.parent a.name 0 ≠ 0 then (l, rPlace l a.parent a.name 0)
  else if 100 ≤ l.length then (l, 4)
  else (l.take (rAt l a.id) ++ yy96 a :: l.drop (rAt l a.id), 0)
 else if a.kind = 2 then match rFind l a.id with
  | none => (l, 5)
  | some k => if ∃ y ∈ l, y.parent = a.id then (l, 9) else (l.take k ++ l.drop (k + 1), 0)
 else if a.kind = 3 then
  if ¬ IsName a.name then (l, 1) else match rFind l a.id with
  | none => (l, 5)
  | some k => if rPlace l a.parent a.name a.id ≠ 0 then (l, rPlace l a.parent a.name a.id)
   else (l.set k { (l[k]?).getD default with parent := a.parent, name := a.name }, 0)
 else if a.kind = 4 then match rFind l a.id with
  | none => (l, 5)
  | some k => if ((l[k]?).getD default).dir = true then (l, 8)
   else if dErr ((l[k]?).getD default).text a.ops ≠ 0 then (l, (dErr ((l[k]?).getD default).text a.ops : Int))
   else if 10000 < rTotal (l.set k { (l[k]?).getD default with text := dTxt ((l[k]?).getD default).text a.ops }) then (l, 4)
   else (l.set k { (l[k]?).getD default with text := dTxt ((l[k]?).getD default).text a.ops }, 0)
 else (l, 1)
section
variable {l : List NodeV} {a : ActV}
theorem rDo_c1 (hk : a.kind = 1) (h : ¬ (IdOk a.id ∧ IsName a.name)) : rDo l a = (l, 1) := by unfold rDo; rw [if_pos hk, if_pos h]
theorem rDo_c2 (hk : a.kind = 1) (h : IdOk a.id ∧ IsName a.name) {k : Nat} (hf : rFind l a.id = some k) : rDo l a = (l, 6) := by
 unfold rDo; rw [if_pos hk, if_neg (fun g => g h), if_pos (by rw [hf]; simp)]
theorem rDo_c3 (hk : a.kind = 1) (h : IdOk a.id ∧ IsName a.name) (hf : rFind l a.id = none) (hp : rPlace l a.parent a.name 0 ≠ 0) : rDo l a = (l, rPlace l a.parent a.name 0) := by
 unfold rDo; rw [if_pos hk, if_neg (fun g => g h), if_neg (by rw [hf]; simp), if_pos hp]
theorem rDo_c4 (hk : a.kind = 1) (h : IdOk a.id ∧ IsName a.name) (hf : rFind l a.id = none) (hp : rPlace l a.parent a.name 0 = 0) (hn : 100 ≤ l.length) : rDo l a = (l, 4) := by
 unfold rDo; rw [if_pos hk, if_neg (fun g => g h), if_neg (by rw [hf]; simp), if_neg (fun g => g hp), if_pos hn]
theorem rDo_c5 (hk : a.kind = 1) (h : IdOk a.id ∧ IsName a.name) (hf : rFind l a.id = none) (hp : rPlace l a.parent a.name 0 = 0) (hn : ¬ 100 ≤ l.length) : rDo l a = (l.take (rAt l a.id) ++ yy96 a :: l.drop (rAt l a.id), 0) := by
 unfold rDo; rw [if_pos hk, if_neg (fun g => g h), if_neg (by rw [hf]; simp), if_neg (fun g => g hp), if_neg hn]
theorem rDo_r1 (hk : a.kind = 2) (hf : rFind l a.id = none) : rDo l a = (l, 5) := by
 unfold rDo; rw [if_neg (by omega), if_pos hk, hf]
theorem rDo_r2 (hk : a.kind = 2) {k : Nat} (hf : rFind l a.id = some k) (h : ∃ y ∈ l, y.parent = a.id) : rDo l a = (l, 9) := by
 unfold rDo; rw [if_neg (by omega), if_pos hk, hf]; exact if_pos h
theorem rDo_r3 (hk : a.kind = 2) {k : Nat} (hf : rFind l a.id = some k) (h : ¬ ∃ y ∈ l, y.parent = a.id) : rDo l a = (l.take k ++ l.drop (k + 1), 0) := by
 unfold rDo; rw [if_neg (by omega), if_pos hk, hf]; exact if_neg h
theorem rDo_m1 (hk : a.kind = 3) (h : ¬ IsName a.name) : rDo l a = (l, 1) := by
 unfold rDo; rw [if_neg (by omega), if_neg (by omega), if_pos hk, if_pos h]
theorem rDo_m2 (hk : a.kind = 3) (h : IsName a.name) (hf : rFind l a.id = none) : rDo l a = (l, 5) := by
 unfold rDo; rw [if_neg (by omega), if_neg (by omega), if_pos hk, if_neg (fun g => g h), hf]
theorem rDo_m3 (hk : a.kind = 3) (h : IsName a.name) {k : Nat} (hf : rFind l a.id = some k) (hp : rPlace l a.parent a.name a.id ≠ 0) : rDo l a = (l, rPlace l a.parent a.name a.id) := by
 unfold rDo; rw [if_neg (by omega), if_neg (by omega), if_pos hk, if_neg (fun g => g h), hf]; exact if_pos hp
theorem rDo_m4 (hk : a.kind = 3) (h : IsName a.name) {k : Nat} (hkl : k < l.length) (hf : rFind l a.id = some k) (hp : rPlace l a.parent a.name a.id = 0) : rDo l a = (l.set k ⟨l[k].id, a.parent, a.name, l[k].dir, l[k].text⟩, 0) := by
 unfold rDo; rw [if_neg (by omega), if_neg (by omega), if_pos hk, if_neg (fun g => g h), hf]
 show (if _ then _ else (l.set k { (l[k]?).getD default with parent := a.parent, name := a.name }, (0 : Int))) = _
 rw [if_neg (fun g => g hp), List.getElem?_eq_getElem hkl]
 rfl
theorem rDo_e1 (hk : a.kind = 4) (hf : rFind l a.id = none) : rDo l a = (l, 5) := by
 unfold rDo; rw [if_neg (by omega), if_neg (by omega), if_neg (by omega), if_pos hk, hf]
theorem rDo_e (hk : a.kind = 4) {k : Nat} (hkl : k < l.length) (hf : rFind l a.id = some k) : rDo l a = if l[k].dir = true then (l, 8)
   else if dErr l[k].text a.ops ≠ 0 then (l, (dErr l[k].text a.ops : Int))
   else if 10000 < rTotal (l.set k ⟨l[k].id, l[k].parent, l[k].name, l[k].dir, dTxt l[k].text a.ops⟩) then (l, 4)
   else (l.set k ⟨l[k].id, l[k].parent, l[k].name, l[k].dir, dTxt l[k].text a.ops⟩, 0) := by
 unfold rDo; rw [if_neg (by omega), if_neg (by omega), if_neg (by omega), if_pos hk, hf]
 show (if ((l[k]?).getD default).dir = true then _ else if dErr ((l[k]?).getD default).text a.ops ≠ 0 then (l, (dErr ((l[k]?).getD default).text a.ops : Int)) else if 10000 < rTotal (l.set k { (l[k]?).getD default with text := dTxt ((l[k]?).getD default).text a.ops }) then _ else (l.set k { (l[k]?).getD default with text := dTxt ((l[k]?).getD default).text a.ops }, (0 : Int))) = _
 rw [List.getElem?_eq_getElem hkl]
 rfl
theorem rDo_o (h1 : a.kind ≠ 1) (h2 : a.kind ≠ 2) (h3 : a.kind ≠ 3) (h4 : a.kind ≠ 4) : rDo l a = (l, 1) := by
 unfold rDo; rw [if_neg h1, if_neg h2, if_neg h3, if_neg h4]
end
attribute [irreducible] rDo rAt
end Go.Proofs.YtjpjdkdbgjipnaaDoor
namespace Go.Proofs.YtjpjdkdbgjipnaaDoor
open Go.RowKit Go.Deep
def NDo (w' : World) (R : List NodeV × Int) (e : Ending) : Prop := ∃ A' c', e = .returned (.tuple #[.slice A' R.1.length c', .int .i64 R.2]) ∧ NodesC w' A' c' R.1
set_option maxHeartbeats 2000000 in
set_option maxRecDepth 100000 in
theorem yy78 (A : Option Addr) (c : Nat) (l : List NodeV) (a : ActV) (hl : l.length ≤ 1048576) (hg : ∀ y ∈ l, y.Good) (hnb : ∀ x ∈ a.name, x < 256) (hnl : a.name.length ≤ maxLen) (hk : a.kind = 1) (hfull : IdOk a.id → IsName a.name → rFind l a.id = none → rPlace l a.parent a.name 0 = 0 → 100 ≤ l.length) (w : World) (hC : NodesC w A c l) :
  Calls Tryd.prog 33 #[.slice A l.length c, .agg (yy1 a).toArray] w fun e w' => NDo w' (rDo l a) e ∧ Below w.heap.size w w' := by
 have HC := xh hC
 clear hC
 obtain ⟨w1, HW1⟩ : ∃ x', Hid (w.alloc (.cells (yy1 a).toArray 46) = x') := ⟨_, xh rfl⟩
 have hs1 : w1.heap.size = w.heap.size + 1 := by rw [← HW1.out]; simp
 have HB1 : Hid (Below w.heap.size w w1) := by
  show Below _ _ _
  rw [← HW1.out]
  exact (Below.refl _ _).alloc (Nat.le_refl _) _
 have HX : Hid (∀ (f : Nat) (v : Value), (yy1 a)[f]? = some v → w1.cell? ⟨w.heap.size, f, none⟩ = some v) := by
  intro f v hf
  rw [← HW1.out, cell_of_row _ _ _ _ _ _ (heap_alloc_new w _)]
  simpa using hf
 have HA := xh (HC.out.1.below HB1.out)
 have GF := xh (yy48 A c l a.id (by unfold maxLen; omega) w1 HA.out)
 have GN := xh (yy94 a.name hnb hnl w1)
 have GP := xh (yy119 A c l a.parent a.name 0 hl hg hnb w1 HA.out)
 obtain ⟨kk, ii, pp, nn, dd, oA, oC, oo⟩ := a
 simp only [yy1] at *
 have x0 := HX.out 0 _ rfl
 have x1 := HX.out 1 _ rfl
 have x2 := HX.out 2 _ rfl
 have x3 := HX.out 3 _ rfl
 have x4 := HX.out 4 _ rfl
 have x5 := HX.out 5 _ rfl
 obtain rfl : kk = 1 := hk
 by_cases i1 : ii < 1
 ·rw [rDo_c1 rfl (fun h => by have := h.1.1; simp only at this; omega)]
  generalize findI (rFind l ii) = fi at GF
  clear GN GP
  go_enter Tryd.func33, Tryd.ntmps33
  go_wp2_with fail
  try rw [HW1.out]
  refine (GF.out).mono ?_
  rintro e v ⟨rfl, rfl⟩
  go_wp2
  try rw [HW1.out]
  go_ret2
  exact ⟨⟨_, _, rfl, HC.out.below HB1.out⟩, HB1.out⟩
 by_cases i2 : 1099511627776 < ii
 ·rw [rDo_c1 rfl (fun h => by have := h.1.2; simp only at this; omega)]
  generalize findI (rFind l ii) = fi at GF
  clear GN GP
  go_enter Tryd.func33, Tryd.ntmps33
  go_wp2_with fail
  try rw [HW1.out]
  refine (GF.out).mono ?_
  rintro e v ⟨rfl, rfl⟩
  go_wp2
  try rw [HW1.out]
  go_ret2
  exact ⟨⟨_, _, rfl, HC.out.below HB1.out⟩, HB1.out⟩
 have hid : IdOk ii := ⟨by omega, by omega⟩
 by_cases hn : IsName nn
 rotate_left
 ·rw [rDo_c1 rfl (fun h => hn h.2)]
  generalize findI (rFind l ii) = fi at GF
  rw [yy210 hn] at GN
  clear GP hn hid
  go_enter Tryd.func33, Tryd.ntmps33
  go_wp2_with fail
  try rw [HW1.out]
  refine (GF.out).mono ?_
  rintro e v ⟨rfl, rfl⟩
  go_wp2_with fail
  try rw [HW1.out]
  refine (GN.out).mono ?_
  rintro e v ⟨rfl, rfl⟩
  go_wp2
  try rw [HW1.out]
  go_ret2
  exact ⟨⟨_, _, rfl, HC.out.below HB1.out⟩, HB1.out⟩
 rw [yy104 hn] at GN
 cases hf : rFind l ii with
 | some q =>
  rw [rDo_c2 rfl ⟨hid, hn⟩ hf]
  obtain ⟨hq, _, _⟩ := yy21 hf
  have hqi : (q : Int) < (l.length : Int) := by omega
  have hq0 : ¬ (q : Int) < 0 := by omega
  have hq1 : (0 : Int) ≤ (q : Int) := by omega
  rw [hf, show findI (some q) = (q : Int) from rfl] at GF
  clear GP hn hid hf
  go_enter Tryd.func33, Tryd.ntmps33
  go_wp2_with fail
  try rw [HW1.out]
  refine (GF.out).mono ?_
  rintro e v ⟨rfl, rfl⟩
  go_wp2_with fail
  try rw [HW1.out]
  refine (GN.out).mono ?_
  rintro e v ⟨rfl, rfl⟩
  go_wp2
  try rw [HW1.out]
  go_ret2
  exact ⟨⟨_, _, rfl, HC.out.below HB1.out⟩, HB1.out⟩
 | none =>
  rw [hf, show findI none = -1 from rfl] at GF
  by_cases hp : rPlace l pp nn 0 = 0
  ·have h100 := hfull hid hn hf hp
   have h100i : (100 : Int) ≤ (l.length : Int) := by omega
   rw [rDo_c4 rfl ⟨hid, hn⟩ hf hp h100]
   rw [hp] at GP
   clear hn hid hf hp h100 hfull
   go_enter Tryd.func33, Tryd.ntmps33
   go_wp2_with fail
   try rw [HW1.out]
   refine (GF.out).mono ?_
   rintro e v ⟨rfl, rfl⟩
   go_wp2_with fail
   try rw [HW1.out]
   refine (GN.out).mono ?_
   rintro e v ⟨rfl, rfl⟩
   go_wp2_with fail
   try rw [HW1.out]
   refine (GP.out).mono ?_
   rintro e v ⟨rfl, rfl⟩
   go_wp2
   try rw [HW1.out]
   go_ret2
   exact ⟨⟨_, _, rfl, HC.out.below HB1.out⟩, HB1.out⟩
  ·rw [rDo_c3 rfl ⟨hid, hn⟩ hf hp]
   generalize rPlace l pp nn 0 = T at GP hp
   have hp2 : (T != 0) = true := by simpa using hp
   clear hn hid hf hp hfull
   go_enter Tryd.func33, Tryd.ntmps33
   go_wp2_with fail
   try rw [HW1.out]
   refine (GF.out).mono ?_
   rintro e v ⟨rfl, rfl⟩
   go_wp2_with fail
   try rw [HW1.out]
   refine (GN.out).mono ?_
   rintro e v ⟨rfl, rfl⟩
   go_wp2_with fail
   try rw [HW1.out]
   refine (GP.out).mono ?_
   rintro e v ⟨rfl, rfl⟩
   go_wp2
   try rw [HW1.out]
   go_ret2
   exact ⟨⟨_, _, rfl, HC.out.below HB1.out⟩, HB1.out⟩
set_option maxHeartbeats 2000000 in
set_option maxRecDepth 100000 in
theorem yy121 (A : Option Addr) (c : Nat) (l : List NodeV) (a : ActV) (hl : l.length ≤ 1048576) (hg : ∀ y ∈ l, y.Good) (hnb : ∀ x ∈ a.name, x < 256) (hnl : a.name.length ≤ maxLen) (hk : a.kind = 3) (hbad : IsName a.name → rFind l a.id ≠ none → rPlace l a.parent a.name a.id ≠ 0) (w : World) (hC : NodesC w A c l) :
  Calls Tryd.prog 33 #[.slice A l.length c, .agg (yy1 a).toArray] w fun e w' => NDo w' (rDo l a) e ∧ Below w.heap.size w w' := by
 have HC := xh hC
 clear hC
 obtain ⟨w1, HW1⟩ : ∃ x', Hid (w.alloc (.cells (yy1 a).toArray 46) = x') := ⟨_, xh rfl⟩
 have hs1 : w1.heap.size = w.heap.size + 1 := by rw [← HW1.out]; simp
 have HB1 : Hid (Below w.heap.size w w1) := by
  show Below _ _ _
  rw [← HW1.out]
  exact (Below.refl _ _).alloc (Nat.le_refl _) _
 have HX : Hid (∀ (f : Nat) (v : Value), (yy1 a)[f]? = some v → w1.cell? ⟨w.heap.size, f, none⟩ = some v) := by
  intro f v hf
  rw [← HW1.out, cell_of_row _ _ _ _ _ _ (heap_alloc_new w _)]
  simpa using hf
 have HA := xh (HC.out.1.below HB1.out)
 have GF := xh (yy48 A c l a.id (by unfold maxLen; omega) w1 HA.out)
 have GN := xh (yy94 a.name hnb hnl w1)
 have GP := xh (yy119 A c l a.parent a.name a.id hl hg hnb w1 HA.out)
 obtain ⟨kk, ii, pp, nn, dd, oA, oC, oo⟩ := a
 simp only [yy1] at *
 have x0 := HX.out 0 _ rfl
 have x1 := HX.out 1 _ rfl
 have x2 := HX.out 2 _ rfl
 have x3 := HX.out 3 _ rfl
 have x4 := HX.out 4 _ rfl
 have x5 := HX.out 5 _ rfl
 obtain rfl : kk = 3 := hk
 by_cases hn : IsName nn
 rotate_left
 ·rw [rDo_m1 rfl hn]
  generalize findI (rFind l ii) = fi at GF
  rw [yy210 hn] at GN
  clear GP hn hbad
  go_enter Tryd.func33, Tryd.ntmps33
  go_wp2_with fail
  try rw [HW1.out]
  refine (GF.out).mono ?_
  rintro e v ⟨rfl, rfl⟩
  go_wp2_with fail
  try rw [HW1.out]
  refine (GN.out).mono ?_
  rintro e v ⟨rfl, rfl⟩
  go_wp2
  try rw [HW1.out]
  go_ret2
  exact ⟨⟨_, _, rfl, HC.out.below HB1.out⟩, HB1.out⟩
 rw [yy104 hn] at GN
 cases hf : rFind l ii with
 | none =>
  rw [rDo_m2 rfl hn hf]
  rw [hf, show findI none = -1 from rfl] at GF
  clear GP hn hf hbad
  go_enter Tryd.func33, Tryd.ntmps33
  go_wp2_with fail
  try rw [HW1.out]
  refine (GF.out).mono ?_
  rintro e v ⟨rfl, rfl⟩
  go_wp2_with fail
  try rw [HW1.out]
  refine (GN.out).mono ?_
  rintro e v ⟨rfl, rfl⟩
  go_wp2
  try rw [HW1.out]
  go_ret2
  exact ⟨⟨_, _, rfl, HC.out.below HB1.out⟩, HB1.out⟩
 | some q =>
  have hp : ¬ rPlace l pp nn ii = 0 := hbad hn (by rw [hf]; simp)
  rw [rDo_m3 rfl hn hf hp]
  obtain ⟨hq, _, _⟩ := yy21 hf
  have hqi : (q : Int) < (l.length : Int) := by omega
  have hq0 : ¬ (q : Int) < 0 := by omega
  have hq1 : (0 : Int) ≤ (q : Int) := by omega
  rw [hf, show findI (some q) = (q : Int) from rfl] at GF
  generalize rPlace l pp nn ii = T at GP hp
  have hp2 : (T != 0) = true := by simpa using hp
  clear hn hf hp hbad
  go_enter Tryd.func33, Tryd.ntmps33
  go_wp2_with fail
  try rw [HW1.out]
  refine (GF.out).mono ?_
  rintro e v ⟨rfl, rfl⟩
  go_wp2_with fail
  try rw [HW1.out]
  refine (GN.out).mono ?_
  rintro e v ⟨rfl, rfl⟩
  go_wp2_with fail
  try rw [HW1.out]
  refine (GP.out).mono ?_
  rintro e v ⟨rfl, rfl⟩
  go_wp2
  try rw [HW1.out]
  go_ret2
  exact ⟨⟨_, _, rfl, HC.out.below HB1.out⟩, HB1.out⟩
set_option maxHeartbeats 2000000 in
set_option maxRecDepth 100000 in
theorem yy314 (A : Option Addr) (c : Nat) (l : List NodeV) (a : ActV) (hl : l.length ≤ 1048576) (hk : a.kind = 2 ∨ a.kind = 4) (hno : ∀ q, rFind l a.id ≠ some q) (w : World) (hC : NodesC w A c l) :
  Calls Tryd.prog 33 #[.slice A l.length c, .agg (yy1 a).toArray] w fun e w' => NDo w' (rDo l a) e ∧ Below w.heap.size w w' := by
 have HC := xh hC
 clear hC
 obtain ⟨w1, HW1⟩ : ∃ x', Hid (w.alloc (.cells (yy1 a).toArray 46) = x') := ⟨_, xh rfl⟩
 have hs1 : w1.heap.size = w.heap.size + 1 := by rw [← HW1.out]; simp
 have HB1 : Hid (Below w.heap.size w w1) := by
  show Below _ _ _
  rw [← HW1.out]
  exact (Below.refl _ _).alloc (Nat.le_refl _) _
 have HX : Hid (∀ (f : Nat) (v : Value), (yy1 a)[f]? = some v → w1.cell? ⟨w.heap.size, f, none⟩ = some v) := by
  intro f v hf
  rw [← HW1.out, cell_of_row _ _ _ _ _ _ (heap_alloc_new w _)]
  simpa using hf
 have HA := xh (HC.out.1.below HB1.out)
 have GF := xh (yy48 A c l a.id (by unfold maxLen; omega) w1 HA.out)
 obtain ⟨kk, ii, pp, nn, dd, oA, oC, oo⟩ := a
 simp only [yy1] at *
 have x0 := HX.out 0 _ rfl
 have x1 := HX.out 1 _ rfl
 have x2 := HX.out 2 _ rfl
 have x3 := HX.out 3 _ rfl
 have x4 := HX.out 4 _ rfl
 have x5 := HX.out 5 _ rfl
 cases hf : rFind l ii with
 | some q =>
  exact absurd hf (hno q)
 | none =>
  rw [hf, show findI none = -1 from rfl] at GF
  rcases hk with hk | hk
  ·obtain rfl : kk = 2 := hk
   rw [rDo_r1 rfl hf]
   clear hf hno
   go_enter Tryd.func33, Tryd.ntmps33
   go_wp2_with fail
   try rw [HW1.out]
   refine (GF.out).mono ?_
   rintro e v ⟨rfl, rfl⟩
   go_wp2
   try rw [HW1.out]
   go_ret2
   exact ⟨⟨_, _, rfl, HC.out.below HB1.out⟩, HB1.out⟩
  ·obtain rfl : kk = 4 := hk
   rw [rDo_e1 rfl hf]
   clear hf hno
   go_enter Tryd.func33, Tryd.ntmps33
   go_wp2_with fail
   try rw [HW1.out]
   refine (GF.out).mono ?_
   rintro e v ⟨rfl, rfl⟩
   go_wp2
   try rw [HW1.out]
   go_ret2
   exact ⟨⟨_, _, rfl, HC.out.below HB1.out⟩, HB1.out⟩
set_option maxHeartbeats 2000000 in
set_option maxRecDepth 100000 in
theorem yy432 (A : Option Addr) (c : Nat) (l : List NodeV) (a : ActV) (hl : l.length ≤ 1048576) (h1 : a.kind ≠ 1) (h2 : a.kind ≠ 2) (h3 : a.kind ≠ 3) (h4 : a.kind ≠ 4) (w : World) (hC : NodesC w A c l) :
  Calls Tryd.prog 33 #[.slice A l.length c, .agg (yy1 a).toArray] w fun e w' => NDo w' (rDo l a) e ∧ Below w.heap.size w w' := by
 have HC := xh hC
 clear hC
 obtain ⟨w1, HW1⟩ : ∃ x', Hid (w.alloc (.cells (yy1 a).toArray 46) = x') := ⟨_, xh rfl⟩
 have hs1 : w1.heap.size = w.heap.size + 1 := by rw [← HW1.out]; simp
 have HB1 : Hid (Below w.heap.size w w1) := by
  show Below _ _ _
  rw [← HW1.out]
  exact (Below.refl _ _).alloc (Nat.le_refl _) _
 have HX : Hid (∀ (f : Nat) (v : Value), (yy1 a)[f]? = some v → w1.cell? ⟨w.heap.size, f, none⟩ = some v) := by
  intro f v hf
  rw [← HW1.out, cell_of_row _ _ _ _ _ _ (heap_alloc_new w _)]
  simpa using hf
 have HA := xh (HC.out.1.below HB1.out)
 have GF := xh (yy48 A c l a.id (by unfold maxLen; omega) w1 HA.out)
 obtain ⟨kk, ii, pp, nn, dd, oA, oC, oo⟩ := a
 simp only [yy1] at *
 have x0 := HX.out 0 _ rfl
 have x1 := HX.out 1 _ rfl
 have x2 := HX.out 2 _ rfl
 have x3 := HX.out 3 _ rfl
 have x4 := HX.out 4 _ rfl
 have x5 := HX.out 5 _ rfl
 rw [rDo_o h1 h2 h3 h4]
 have q1 : (kk == 1) = false := by simpa using h1
 have q2 : (kk == 2) = false := by simpa using h2
 have q3 : (kk == 3) = false := by simpa using h3
 have q4 : (kk == 4) = false := by simpa using h4
 generalize findI (rFind l ii) = fi at GF
 clear h1 h2 h3 h4
 go_enter Tryd.func33, Tryd.ntmps33
 go_wp2_with fail
 try rw [HW1.out]
 refine (GF.out).mono ?_
 rintro e v ⟨rfl, rfl⟩
 go_wp2
 try rw [HW1.out]
 go_ret2
 exact ⟨⟨_, _, rfl, HC.out.below HB1.out⟩, HB1.out⟩
end Go.Proofs.YtjpjdkdbgjipnaaDoor
namespace Go.Proofs.YtjpjdkdbgjipnaaDoor
open Go.RowKit
structure Keep where
 r : World → World → Prop
 refl : ∀ w, r w w
 trans : ∀ {a b c}, r a b → r b c → r a c
def yy20 (l : List Nat) : Keep where
 r w x := w.heap.size ≤ x.heap.size ∧ ∀ k ∈ l, x.heap[k]? = w.heap[k]?
 refl _ := ⟨Nat.le_refl _, fun _ _ => rfl⟩
 trans h1 h2 := ⟨Nat.le_trans h1.1 h2.1, fun k hk => (h2.2 k hk).trans (h1.2 k hk)⟩
def ExtK (R : Keep) (w : World) : Type := { x : World // R.r w x }
instance (R : Keep) (w : World) : Inhabited (ExtK R w) := ⟨⟨w, R.refl _⟩⟩
theorem cell_of_block {w x : World} {b : Nat} (h : x.heap[b]? = w.heap[b]?) (i : Nat) : x.cell? ⟨b, i, none⟩ = w.cell? ⟨b, i, none⟩ := by simp [World.cell?, h]
theorem yy174 {g : Nat} {w x : World} (h : w.heap.size ≤ x.heap.size) (hg : x.heap[g]? = w.heap[g]?) : (yy20 [g]).r w x :=
 ⟨h, fun k hk => by rw [List.mem_singleton.1 hk]; exact hg⟩
theorem yy233 {P : Program} {C : World → Prop} {ρ : Operand → Value} {o : Oper} {x : Operand} (ho : o.op = .nilCheck x) {w : World} {v : Value} (h : Oper.quietUpon P C w v ((execOp ρ o).run P w)) : (execOp ρ o).run P w = .ok (.value v) w := by
 obtain ⟨dst, op, type, pos, after, guard⟩ := o
 simp only at ho
 subst ho
 simp only [execOp] at h ⊢
 generalize ρ x = y at h ⊢
 split at h
 ·simp [runtimePanic, Oper.quietUpon] at h
 ·simp [runtimePanic, Oper.quietUpon] at h
 ·simp [runtimePanic, Oper.quietUpon] at h
 ·revert h
  split
  ·intro h; simp [runtimePanic, Oper.quietUpon] at h
  ·rename_i t u _
   have e : Sem.run P program w = .ok P w := rfl
   simp only [Sem.run_bind, e, Result.andThen_ok]
   generalize Sem.run P (nilAhead (P.types.size + Made.depth) t u _) w = r
   intro h
   cases r with
   | halt e w' => simp only [Result.andThen, Oper.quietUpon] at h
   | ok b w' =>
    simp only [Result.andThen_ok] at h ⊢
    split at h
    ·simp [unsupported, Oper.quietUpon] at h
    ·rename_i hb
     rw [if_neg hb]
     simp only [Sem.run_pure, Oper.quietUpon] at h ⊢
     rw [h.1, h.2]
  ·intro h
   simp only [Sem.run_pure, Oper.quietUpon] at h ⊢
   rw [h.2]
 ·simp only [Sem.run_pure, Oper.quietUpon] at h ⊢
  rw [h.2]
def yy194 (o : Oper) : Bool :=
 match o.op with
 | .nilCheck _ => true
 | _ => yy151 o
theorem yy160 {P : Program} {C : World → Prop} {o : Oper} {a : Act} (hk : yy194 o = true) {w : World} {v : Value} (h : o.quietAt P a C w v) : (execOp a.eval o).run P w = .ok (.value v) w := by
 unfold Oper.quietAt at h
 by_cases hn : ∃ x, o.op = .nilCheck x
 ·obtain ⟨x, hx⟩ := hn
  exact yy233 hx h
 ·have hk' : yy151 o = true := by
   unfold yy194 at hk
   split at hk
   ·rename_i x hx
    exact (hn ⟨_, hx⟩).elim
   ·exact hk
  generalize hr : (execOp a.eval o).run P w = r at h ⊢
  cases r with
  | halt y w' => simp only [Oper.quietUpon] at h
  | ok n w' =>
   obtain ⟨u, rfl⟩ := yy103 hk' hr
   simp only [Oper.quietUpon] at h
   rw [h.1, h.2]
def yy137 (md : Region.Mode) (ops : Array Oper) : List (Nat × Bool) → Array Bool → Bool
 | [], listed => (Region.ready md ops listed).isEmpty
 | (i, true) :: s, listed => (match ops[i]? with | some o => yy194 o | none => false) && (Region.ready md ops listed).contains i && Region.free md ops listed i && yy137 md ops s (listed.setIfInBounds i true)
 | (i, false) :: s, listed => (Region.ready md ops listed == [i]) && yy137 md ops s (listed.setIfInBounds i true)
def wpK (P : Program) (R : Keep) (ops : Array Oper) (Q : Exit → Act → World → Prop) : List (Nat × Bool) → Act → World → Prop
 | [], a, w => Q .normal a w
 | (i, true) :: s, a, w => ∃ o, ops[i]? = some o ∧ if Region.wanted o (yielded ops a.tmps) = true then o.quiet P a (fun x => ∃ e : ExtK R w, x = e.val) (fun a' => wpK P R ops Q s a' w) else wpK P R ops Q s (a.put o.dst undef) w
 | (i, false) :: s, a, w => ∃ o, ops[i]? = some o ∧ if Region.wanted o (yielded ops a.tmps) = true then o.wp P a w (fun a' w' => R.r w w' ∧ wpK P R ops Q s a' w') Q else wpK P R ops Q s (a.put o.dst undef) w
section
variable {P : Program} {R : Keep} {ops : Array Oper} {Q : Exit → Act → World → Prop} {md : Region.Mode}
theorem yy709 (hs : Region.noSelect ops = true) (hQ : ∀ c a d v w, Q (.panic c) (Act.put a d v) w → Q (.panic c) a w) :
  ∀ (s : List (Nat × Bool)) (listed : Array Bool) (a : Act) (w : World), yy137 md ops s listed = true → wpK P R ops Q s a w → wpAnyH P md ops Q (fun x => R.r w x) s.length listed a w := by
 intro s
 induction s with
 | nil =>
  intro listed a w hB h
  exact ⟨by simpa [yy137] using hB, h⟩
 | cons x s ih =>
  intro listed a w hB h
  obtain ⟨i, b⟩ := x
  cases b with
  | true =>
   obtain ⟨o, ho, h⟩ := h
   simp only [yy137, ho, Bool.and_eq_true] at hB
   obtain ⟨⟨⟨hk, hr⟩, hf⟩, hB'⟩ := hB
   split at h
   ·rename_i hw
    obtain ⟨v, hv, hn⟩ := h
    refine wpAnyH_take ho hs hf hr (fun c a w h => hQ c a _ _ w h) (.inl ⟨hw, fun x hx => ?_⟩) (R.refl _) (ih _ _ _ hB' hn)
    exact yy160 hk (hv x ⟨⟨x, hx⟩, rfl⟩)
   ·rename_i hw
    exact wpAnyH_take ho hs hf hr (fun c a w h => hQ c a _ _ w h) (.inr ⟨by simpa using hw, rfl⟩) (R.refl _) (ih _ _ _ hB' h)
  | false =>
   obtain ⟨o, ho, h⟩ := h
   simp only [yy137, Bool.and_eq_true, beq_iff_eq] at hB
   refine wpAnyH_all hB.1 (by simp) (fun j hj => ?_)
   obtain rfl : j = i := by simpa using hj
   unfold wpOp
   simp only [ho]
   split at h
   ·rename_i hw
    rw [if_pos hw]
    refine .inl (Oper.wp_mono (fun a' w' h' => ⟨h'.1, ?_⟩) h)
    exact yy109 (fun x hx => R.trans h'.1 hx) _ _ _ _ (ih _ _ _ hB.2 h'.2)
   ·rename_i hw
    rw [if_neg hw]
    exact ⟨R.refl _, ih _ _ _ hB.2 h⟩
theorem yy354 (R : Keep) {id : Nat} {a : Act} {w : World} (s : List (Nat × Bool)) (hm : P.follows .mixedOrders = true) (hs : (Region.noSelect ops && (s.length == ops.size) && yy137 .any ops s (Array.replicate ops.size false)) = true)
  (hQ : ∀ c a d v w, Q (.panic c) (Act.put a d v) w → Q (.panic c) a w) (h : wpK P R ops Q s a w.drew) : (Code.region id ops true).wp P Q a w := by
 simp only [Bool.and_eq_true, beq_iff_eq] at hs
 refine wp_region_held (S := fun x => R.r w.drew x) hm ?_
 have := yy709 (md := .any) hs.1.1 hQ s _ a w.drew hs.2 h
 rw [hs.1.2] at this
 exact this
def wpH (P : Program) (R : Keep) (ops : Array Oper) (Q : Exit → Act → World → Prop) : List (Oper × Bool) → Act → World → Prop
 | [], a, w => Q .normal a w
 | (o, true) :: s, a, w => if Region.wanted o (yielded ops a.tmps) = true then o.quiet P a (fun x => ∃ e : ExtK R w, x = e.val) (fun a' => wpH P R ops Q s a' w) else wpH P R ops Q s (a.put o.dst undef) w
 | (o, false) :: s, a, w => if Region.wanted o (yielded ops a.tmps) = true then o.wp P a w (fun a' w' => R.r w w' ∧ wpH P R ops Q s a' w') Q else wpH P R ops Q s (a.put o.dst undef) w
theorem yy138 {ops : List Oper} : ∀ (s : List (Nat × Bool)) (a : Act) (w : World), (∀ x ∈ s, x.1 < ops.length) → wpH P R ops.toArray Q (picked ops s) a w → wpK P R ops.toArray Q s a w
 | [], _, _, _, h => h
 | (i, true) :: s, a, w, hl, h => by
  have hi : i < ops.length := hl (i, true) (List.mem_cons_self ..)
  refine ⟨ops[i], by simp [hi], ?_⟩
  have e : (ops[i]?).getD default = ops[i] := by simp [hi]
  simp only [picked, List.map_cons, wpH, e] at h
  split at h
  ·rename_i hw
   rw [if_pos hw]
   exact Oper.quiet_mono (fun a' h' => yy138 s a' w (fun x hx => hl x (List.mem_cons_of_mem _ hx)) h') h
  ·rename_i hw
   rw [if_neg hw]
   exact yy138 s _ w (fun x hx => hl x (List.mem_cons_of_mem _ hx)) h
 | (i, false) :: s, a, w, hl, h => by
  have hi : i < ops.length := hl (i, false) (List.mem_cons_self ..)
  refine ⟨ops[i], by simp [hi], ?_⟩
  have e : (ops[i]?).getD default = ops[i] := by simp [hi]
  simp only [picked, List.map_cons, wpH, e] at h
  split at h
  ·rename_i hw
   rw [if_pos hw]
   exact Oper.wp_mono (fun a' w' h' => ⟨h'.1, yy138 s a' w' (fun x hx => hl x (List.mem_cons_of_mem _ hx)) h'.2⟩) h
  ·rename_i hw
   rw [if_neg hw]
   exact yy138 s _ w (fun x hx => hl x (List.mem_cons_of_mem _ hx)) h
theorem yy35 (R : Keep) {id : Nat} {ops : List Oper} {a : Act} {w : World} (s : List (Nat × Bool)) (hm : P.follows .mixedOrders = true)
  (hs : (Region.noSelect ops.toArray && (s.length == ops.toArray.size) && yy137 .any ops.toArray s (Array.replicate ops.toArray.size false) && s.all fun x => decide (x.1 < ops.length)) = true)
  (hQ : ∀ c a d v w, Q (.panic c) (Act.put a d v) w → Q (.panic c) a w) (h : wpH P R ops.toArray Q (picked ops s) a w.drew) : (Code.region id ops.toArray true).wp P Q a w := by
 rw [Bool.and_eq_true] at hs
 exact yy354 R s hm hs.1 hQ (yy138 s a w.drew (fun x hx => of_decide_eq_true (List.all_eq_true.1 hs.2 x hx)) h)
theorem yy195 {a : Act} {w : World} (h : Q .normal a w) : wpH P R ops Q [] a w := h
theorem yy215 {b : Bool} {s : List (Oper × Bool)} {o : Oper} {a : Act} {w : World} (hw : Region.wanted o (yielded ops a.tmps) = false) (h : wpH P R ops Q s (a.put o.dst undef) w) : wpH P R ops Q ((o, b) :: s) a w := by
 cases b <;> (simp only [wpH]; rw [if_neg (by rw [hw]; exact Bool.false_ne_true)]; exact h)
theorem yy56 {s : List (Oper × Bool)} {o : Oper} {a : Act} {w : World} (hw : Region.wanted o (yielded ops a.tmps) = true)
  (h : ∀ K : Act → Prop, (∀ a', wpH P R ops Q s a' w → K a') → o.quiet P a (fun x => ∃ e : ExtK R w, x = e.val) K) : wpH P R ops Q ((o, true) :: s) a w := by
 simp only [wpH]; rw [if_pos hw]; exact h _ fun _ h => h
theorem yy229 {s : List (Oper × Bool)} {o : Oper} {a : Act} {w : World} (hw : Region.wanted o (yielded ops a.tmps) = true)
  (h : ∀ K : Act → World → Prop, (∀ a' w', R.r w w' → wpH P R ops Q s a' w' → K a' w') → o.wp P a w K Q) : wpH P R ops Q ((o, false) :: s) a w := by
 simp only [wpH]; rw [if_pos hw]; exact h _ fun _ _ h1 h2 => ⟨h1, h2⟩
end
attribute [irreducible] wpH
end Go.Proofs.YtjpjdkdbgjipnaaDoor
namespace Go.Proofs.YtjpjdkdbgjipnaaDoor
open Go.RowKit Go.Deep
namespace Tk
variable {B g ga gb : Nat} {l : List CompV} {at_ n : Nat} {f h : Nat → Value} {w0 w w' : World}
end Tk
end Go.Proofs.YtjpjdkdbgjipnaaDoor
namespace Go.Proofs.YtjpjdkdbgjipnaaDoor
noncomputable def rest (l : List CompV) (i n : Nat) : List CompV := match l.drop i with | [] => [] | c :: r => cut c n :: r
structure Pos (l : List CompV) (i n : Nat) : Prop where
 le : i ≤ l.length
 at_ : ∀ h : i < l.length, n < sz l[i]
noncomputable def wt : List CompV → Nat
 | [] => 0
 | c :: l => sz c + wt l
theorem yy866 (c : CompV) (l : List CompV) : wt (c :: l) = sz c + wt l := rfl
theorem wt_in : ∀ (l : List CompV), (∀ c ∈ l, Wh c) → wt l ≤ inS l + outS l ∧ (∀ c ∈ l, sz c ≤ inS l + outS l)
 | [], _ => ⟨Nat.zero_le _, fun c hc => by cases hc⟩
 | c :: l, hw => by
  have ih := wt_in l fun x hx => hw x (List.mem_cons_of_mem _ hx)
  have hc : sz c ≤ inN c + outN c := by
   rcases (hw c (by simp)).cases with ⟨g, _⟩ | ⟨g, _⟩ | ⟨g, _⟩
   ·rw [sz_not (by omega), in_one g]; omega
   ·rw [sz_not (by omega), yy89 g]; omega
   ·rw [sz_two g, yy185 g]; omega
  rw [yy866, yy32, yy69]
  refine ⟨by omega, fun x hx => ?_⟩
  rcases List.mem_cons.1 hx with rfl | hx
  ·omega
  ·have := ih.2 x hx; omega
theorem E_len4 : ∀ vs : List Nat, (E vs).length ≤ 4 * vs.length
 | [] => by rw [E_nil]; simp
 | v :: vs => by
  have := E_len4 vs
  have := enc_le v
  rw [E_cons, List.length_append, List.length_cons]
  omega
def Small1 (c : CompV) : Prop := c.text.length ≤ 16000
theorem yy536 {c : CompV} (h : Wh c) {k : Nat} (hs : sz c ≤ 4000) : Small1 (piece c k) := by
 rcases h.cases with ⟨g, _⟩ | ⟨g, _⟩ | ⟨g, _, _, gv⟩
 ·have e : piece c k = ⟨c.kind, k, []⟩ := if_neg (by omega)
  rw [e]; exact Nat.zero_le _
 ·have e : piece c k = ⟨c.kind, k, []⟩ := if_neg (by omega)
  rw [e]; exact Nat.zero_le _
 ·have e : piece c k = ⟨2, 0, E ((cps c.text).take k)⟩ := if_pos g
  rw [e]
  show (E ((cps c.text).take k)).length ≤ 16000
  have := E_len4 ((cps c.text).take k)
  rw [List.length_take] at this
  rw [sz_two g] at hs
  omega
theorem yy286 : ∀ (l : List CompV), (∀ x ∈ l, Small1 x) → tlen l ≤ l.length * 16000
 | [], _ => by simp [tlen]
 | c :: l, h => by
  have := yy286 l fun x hx => h x (List.mem_cons_of_mem _ hx)
  have h1 : c.text.length ≤ 16000 := h c (by simp)
  rw [show tlen (c :: l) = c.text.length + tlen l by simp [tlen], List.length_cons]
  omega
attribute [irreducible] wt
theorem wh_n : ∀ (l : List CompV), (∀ c ∈ l, Wh c) → ∀ c ∈ l, 0 ≤ c.n ∧ c.n ≤ ((inS l + outS l : Nat) : Int)
 | [], _, c, hc => by cases hc
 | d :: l, hw, c, hc => by
  rw [yy32, yy69]
  rcases List.mem_cons.1 hc with rfl | hc
  ·rcases (hw c (by simp)).cases with ⟨g, gn, _⟩ | ⟨g, gn, _⟩ | ⟨g, gn, _⟩
   ·rw [in_one g]; omega
   ·rw [yy89 g]; omega
   ·omega
  ·have := wh_n l (fun x hx => hw x (List.mem_cons_of_mem _ hx)) c hc
   omega
theorem yy710 {o : List CompV} (hw : ∀ c ∈ o, Wh c) (hs : ∀ x ∈ o, Small1 x) (hl : o.length ≤ 8000) (hi : inS o ≤ 4000) (ho : outS o ≤ 4000) : Held1 (yy38 o) := by
 have htl := yy286 o hs
 have hg : ∀ y ∈ o, y.Good := fun y hy => by
  have h1 := wh_n o hw y hy
  have h2 : y.text.length ≤ 16000 := hs y hy
  refine ⟨?_, ?_, ?_, by unfold maxLen; omega⟩
  ·rcases (hw y hy).cases with ⟨g, _⟩ | ⟨g, _⟩ | ⟨g, _⟩ <;> (rw [g]; unfold Fit64; omega)
  ·unfold Fit64; omega
  ·rcases (hw y hy).cases with ⟨_, _, g⟩ | ⟨_, _, g⟩ | ⟨_, _, _, vs, g⟩
   ·rw [g]; exact fun x hx => by cases hx
   ·rw [g]; exact fun x hx => by cases hx
   ·rw [← g.bytes]; exact E_lt g.may
 have h2 := yy786 o
 have h3 := yy328 o
 exact ⟨yy680 o hg (by omega), by omega, by omega⟩
theorem yy867 {f : Bool} {a b o : List CompV} (h : Ov f a b o) : (∀ x ∈ a, Wh x) → (∀ x ∈ b, Wh x) → inS a = inS b → outS o ≤ outS a + outS b := by
 induction h with
 | nil => intro _ _ _; rw [yy414]; omega
 | puts c a b o hk _ _ ih =>
  intro ha hb hn
  rw [yy32, in_two hk, Nat.zero_add] at hn
  have := ih (fun x hx => ha x (List.mem_cons_of_mem _ hx)) hb hn
  rw [yy69, yy69]; omega
 | pass a d b o _ hk _ ih =>
  intro ha hb hn
  rw [yy32, in_two hk, Nat.zero_add] at hn
  have := ih ha (fun x hx => hb x (List.mem_cons_of_mem _ hx)) hn
  have e : outN (⟨1, (sz d : Int), []⟩ : CompV) = sz d := by rw [yy258 rfl]; rfl
  rw [yy69, yy69, e, yy185 hk, sz_two hk]; omega
 | both c a d b o n h1 h2 hmin _ ih =>
  intro ha hb hn
  have k := yy482 (a := a) (b := b) h1 h2 hmin ha hb
  have hia := k.ia; have hib := k.ib; have hoa := k.oa; have hob := k.ob
  have := ih k.wa k.wb (by omega)
  by_cases hd : d.kind = 1
  ·rw [if_pos hd, List.singleton_append, yy69]; omega
  ·rw [if_neg hd, List.nil_append]; omega
theorem yy868 {f : Bool} {a b o : List CompV} (ha : rCheck a = 0) (hb : rCheck b = 0) (he : rBase a = rBase b) (h : Ov f a b o) (hs : ∀ x ∈ o, Small1 x) (hl : o.length ≤ 8000) : Held1 (yy38 o) ∧ (∀ x ∈ o, Wh x) ∧ inS o = outS b := by
 have ka := ok_of ha
 have kb := ok_of hb
 have e1 := ka.base; have e2 := kb.base
 have c := h.wh ka.wh kb.wh (by omega)
 have i2 := yy867 h ka.wh kb.wh (by omega)
 have i1 := c.2; have i3 := ka.out1; have i4 := kb.out1
 exact ⟨yy710 c.1 hs hl (by omega) (by omega), c⟩
def plain (c : CompV) : CompV := if c.kind = 2 then ⟨2, 0, c.text⟩ else c
theorem nStep_plain (s : NS) (c : CompV) : nStep s (plain c) = nStep s c := by
 unfold plain
 by_cases h : c.kind = 2
 ·rw [if_pos h]
  unfold nStep
  rw [if_pos rfl, if_pos h]
 ·rw [if_neg h]
theorem norm_plain (l : List CompV) : yy38 (l.map plain) = yy38 l := by
 have : ∀ (l : List CompV) (s : NS), (l.map plain).foldl nStep s = l.foldl nStep s := by
  intro l
  induction l with
  | nil => intro s; rfl
  | cons c l ih => intro s; rw [List.map_cons, List.foldl_cons, List.foldl_cons, nStep_plain, ih]
 rw [yy38, yy38, nRun, nRun, this]
theorem yy287 (c : CompV) : (plain c).text = c.text := by unfold plain; split <;> rfl
theorem tlen_plain (l : List CompV) : tlen (l.map plain) = tlen l := by
 unfold tlen
 congr 1
 rw [List.flatMap_map]
 congr 1
 funext c
 exact yy287 c
theorem yy622 {c : CompV} (h : Wh c) (hs : sz c ≤ 4000) : Small1 c := by
 have := yy536 h (k := sz c) hs
 rwa [yy475 h] at this
theorem yy499 {c : CompV} {l : List CompV} {n : Nat} (hc : Wh c ∧ sz c ≤ 4000) (hl : ∀ x ∈ l, Wh x ∧ sz x ≤ 4000) (hn : n ≤ sz c) : ∀ x ∈ chop c l n, Wh x ∧ sz x ≤ 4000 := by
 unfold chop
 split
 ·exact hl
 ·intro x hx
  rcases List.mem_cons.1 hx with rfl | hx
  ·have := cut_wh hc.1 (n := n) (by omega)
   exact ⟨this.1, by have := hc.2; omega⟩
  ·exact hl x hx
end Go.Proofs.YtjpjdkdbgjipnaaDoor
namespace Go.Proofs.YtjpjdkdbgjipnaaDoor
open Go.RowKit Go.Deep
namespace St
variable {B gx gy base : Nat} {a b : List CompV} {w0 w w' : World} {i n j m : Nat} {o : List CompV} {A : Option Addr} {c : Nat}
end St
def yy92 (c : NodeV) : List Nat := [c.name.length, c.text.length, 3]
def yy49 (limit : Nat) (l : List NodeV) : Nat := wts limit 0 (l.map yy92)
set_option maxHeartbeats 1000000 in
set_option maxRecDepth 100000 in
theorem yy360 (limit : Nat) (b off cap : Nat) (l : List NodeV) (hl : l.length ≤ maxLen) (hg : ∀ y ∈ l, y.Good) (w : World) (hc : yy14 w (some ⟨b, off, none⟩) l) :
  Calls Tryd.prog 9 #[.slice (some ⟨b, off, none⟩) l.length cap, .int .i64 (limit : Int)] w fun e w' => e = .returned (.int .i64 ((yy49 limit l : Nat) : Int)) ∧ Below w.heap.size w w' := by
 unfold maxLen at hl
 have HC := xh hc; clear hc
 have HG := xh hg; clear hg
 obtain ⟨T, HT⟩ : ∃ T, Hid (yy49 limit l = T) := ⟨_, rfl⟩
 rw [HT.out]
 go_enter Tryd.func9, Tryd.ntmps9
 go_wp2
 go_loopw [5, 6] (fun t i wr => ∃ k m : Nat, k ≤ l.length ∧ i = .int .i64 k ∧ t = .int .i64 (m : Int) ∧ m ≤ 1099511627776 ∧ wts limit m ((l.map yy92).drop k) = T ∧ Below w.heap.size w wr) (fun _ i _ => l.length - (intOf i).toNat)
 case atStart => exact ⟨0, 0, Nat.zero_le _, rfl, rfl, by omega, HT.out, Below.refl _ _⟩
 case round =>
  obtain ⟨k, m, hk, rfl, rfl, hm, he, hbel⟩ := hrel
  have HE := xh he; clear he
  have HB := xh hbel; clear hbel
  by_cases hlt : k < l.length
  ·have HW := xh (HE.out ▸ yy337 limit m (l.map yy92) k (by simpa using hlt) : T = _)
   have HX : Hid ((l.map yy92)[k]'(by simpa using hlt) = [l[k].name.length, l[k].text.length, 3]) := by show _ = _; rw [List.getElem_map]; rfl
   by_cases hml : m ≤ limit
   ·have HCA := xh ((HC.out.below HB.out).at_ hlt)
    have hx1 := (HG.out _ (List.getElem_mem hlt)).2.2.1.2
    have hx2 := (HG.out _ (List.getElem_mem hlt)).2.2.2.2
    unfold maxLen at hx1 hx2
    have hs1 := bstr_size l[k].name
    have hs2 := bstr_size l[k].text
    obtain ⟨S1, HS1⟩ : ∃ S, Hid (bstr l[k].name = S) := ⟨bstr l[k].name, xh rfl⟩
    obtain ⟨S2, HS2⟩ : ∃ S, Hid (bstr l[k].text = S) := ⟨bstr l[k].text, xh rfl⟩
    obtain ⟨a, HA⟩ : ∃ a, Hid (l[k].name.length = a) := ⟨l[k].name.length, xh rfl⟩
    obtain ⟨c, HCC⟩ : ∃ a, Hid (l[k].text.length = a) := ⟨l[k].text.length, xh rfl⟩
    rw [HS1.out] at HCA hs1
    rw [HS2.out] at HCA hs2
    rw [HA.out] at hs1 hx1 HX
    rw [HCC.out] at hs2 hx2 HX
    have hk2 : Hid (wr.cell? ⟨b, off + k * 5 + 2, none⟩ = some (.string S1)) := HCA.out.2.2.1
    have hk4 : Hid (wr.cell? ⟨b, off + k * 5 + 4, none⟩ = some (.string S2)) := HCA.out.2.2.2.2
    have HR : Hid (wts limit (capSum m [a, c, 3]) ((l.map yy92).drop (k + 1)) = T) := by show _ = _; rw [HW.out, if_pos hml, HX.out]
    obtain ⟨r, HRR⟩ : ∃ r, Hid (capSum m [a, c, 3] = r) := ⟨_, rfl⟩
    have hr : r ≤ 1099511627776 := by rw [← HRR.out]; exact yy108 _ m hm
    rw [HRR.out] at HR
    have HN := xh (fun (wx : World) (t : TypeId) g hg' => yy264 wx t #[.int .i64 (a : Int), .int .i64 (c : Int), .int .i64 3] [a, c, 3] (fun j x hx => by
     match j, hx with
     | 0, hx => cases hx; rfl
     | 1, hx => cases hx; rfl
     | 2, hx => cases hx; rfl) g hg')
    have HS := xh (fun (wx : World) g (hn : NatsAt wx g 0 [a, c, 3]) => yy95 m (by omega) g 0 3 [a, c, 3] (by simp [maxLen]) (by simp; omega) wx hn)
    rw [HRR.out] at HS
    clear HW HRR HCA
    go_wp2_with fail
    refine wp_region_lit sc5 (by kernel_rfl) (by kernel_rfl) (fun _ _ d _ _ h => by cases d <;> exact h) ?_
    simp only [picked, sc5, xmc, xmn, xgs, xgz, xgd]
    have hq2 := fun e : Ext wr.drew => Ext.cell (w := wr.drew) hk2.out e
    have hq4 := fun e : Ext wr.drew => Ext.cell (w := wr.drew) hk4.out e
    repeat (first | (refine yy0 (by rfl) (fun K hK => ?_); go_big_quiet_op; refine hK _ ?_; clear hK K) | (refine yy2 (by rfl) ?_; simp only [Act.put, xsa, xsz, xss]))
    clear hq2 hq4
    refine yy4 (by rfl) (fun K hK => ?_)
    go_simp
    refine hK _ _ ((Below.refl _ _).alloc (Nat.le_refl _) _) ?_
    clear hK K
    repeat (first | (refine yy0 (by rfl) (fun K hK => ?_); go_big_quiet_op; refine hK _ ?_; clear hK K) | (refine yy2 (by rfl) ?_; simp only [Act.put, xsa, xsz, xss]))
    refine yy4 (by rfl) (fun K hK => ?_)
    go_simp
    refine (HS.out _ _ (NatsAt.drew (HN.out wr _ _ rfl))).mono ?_
    rintro e w2 ⟨rfl, rfl⟩
    refine hK _ _ (Below.refl _ _) ?_
    clear hK K
    repeat (first | (refine yy0 (by rfl) (fun K hK => ?_); go_big_quiet_op; refine hK _ ?_; clear hK K) | (refine yy2 (by rfl) ?_; simp only [Act.put, xsa, xsz, xss]))
    refine yy13 ?_
    go_wp2
    go_roundw
    case rel => exact ⟨k + 1, r, by omega, by go_num, rfl, hr, HR.out, (HB.out.alloc HB.out.size _).drew⟩
    case measure => simp [intOf]; omega
   ·have HR : Hid (m = T) := by show _ = _; rw [HW.out, if_neg hml]
    have hml' : limit < m := by omega
    go_wp2
    go_ret
    exact ⟨by rw [← HR.out]; rfl, HB.out⟩
  ·have HR : Hid (m = T) := by
    show m = T
    rw [← HE.out, List.drop_eq_nil_of_le (by simp; omega), yy188]
   go_wp2
   go_ret
   exact ⟨by rw [← HR.out]; rfl, HB.out⟩
theorem yy200 (limit : Nat) (A : Option Addr) (cap : Nat) (w : World) :
  Calls Tryd.prog 9 #[.slice A 0 cap, .int .i64 (limit : Int)] w fun e w' => e = .returned (.int .i64 ((yy49 limit [] : Nat) : Int)) ∧ Below w.heap.size w w' := by
 have HR : Hid (0 = yy49 limit []) := by show 0 = yy49 limit []; rw [yy49, List.map_nil, yy188]
 go_enter Tryd.func9, Tryd.ntmps9
 go_wp2
 refine wp_loop_rounds 1 ?_
 rw [rounds_succ]
 go_wp2
 go_ret
 exact ⟨by rw [← HR.out]; rfl, Below.refl _ _⟩
theorem yy409 {A : Option Addr} {l : List NodeV} (limit : Nat) (cap : Nat) (hl : l.length ≤ maxLen) (hg : ∀ y ∈ l, y.Good) (w : World) (h : yy14 w A l) :
  Calls Tryd.prog 9 #[.slice A l.length cap, .int .i64 (limit : Int)] w fun e w' => e = .returned (.int .i64 ((yy49 limit l : Nat) : Int)) ∧ Below w.heap.size w w' := by
 cases l with
 | nil => exact yy200 limit A cap w
 | cons c l =>
  obtain ⟨b, off, rfl, _⟩ := h.form (by simp)
  exact yy360 limit b off cap _ hl hg w h
end Go.Proofs.YtjpjdkdbgjipnaaDoor
