/- The document's own SameActs: two lists of acts. Condition: no slice and no text is longer than memory. (Merged of 15 texts.) -/
import Derived.Test.YtjpjdkdbgjipnaaDoorV47
import Derived.Test.YtjpjdkdbgjipnaaDoorV22
import Derived.Test.YtjpjdkdbgjipnaaDoorV21
import Derived.Test.YtjpjdkdbgjipnaaDoorV40
import Derived.Test.YtjpjdkdbgjipnaaDoorV9
import Derived.Test.YtjpjdkdbgjipnaaDoorV4
import Derived.Test.YtjpjdkdbgjipnaaDoorV44
import Derived.BigQuiet
namespace Go.Proofs.YtjpjdkdbgjipnaaDoor
open Go.RowKit Go.Deep
structure Held1 (l : List CompV) : Prop where
 good : ∀ y ∈ l, y.Good
 len : l.length ≤ 1073741824
 text : tlen l ≤ 1073741824
theorem Held1.fine {l : List CompV} (h : Held1 l) : Fine1 l := fun y hy => ⟨h.good y hy, by have := yy234 hy; have := h.text; omega⟩
theorem yy152 : Held1 [] := ⟨fun y hy => (by cases hy), Nat.zero_le _, Nat.zero_le _⟩
theorem Held1.max {l : List CompV} (h : Held1 l) : l.length ≤ maxLen := by have := h.len; unfold maxLen; omega
theorem yy623 {l : List CompV} (hg : ∀ y ∈ l, y.Good) {k : Nat} (h : 2 * l.length + tlen l ≤ k) (hk : k ≤ 1073741824) : Held1 l := ⟨hg, by omega, by omega⟩
end Go.Proofs.YtjpjdkdbgjipnaaDoor
namespace Go.Proofs.YtjpjdkdbgjipnaaDoor
inductive Ov (f : Bool) : List CompV → List CompV → List CompV → Prop
 | nil : Ov f [] [] []
 | puts (c : CompV) (a b o : List CompV) : c.kind = 2 → (f = true ∨ kd b ≠ 2) → Ov f a b o → Ov f (c :: a) b (c :: o)
 | pass (a : List CompV) (d : CompV) (b o : List CompV) : ¬ (kd a = 2 ∧ f = true) → d.kind = 2 → Ov f a b o → Ov f a (d :: b) (⟨1, (sz d : Int), []⟩ :: o)
 | both (c : CompV) (a : List CompV) (d : CompV) (b o : List CompV) (n : Nat) : c.kind ≠ 2 → d.kind ≠ 2 → n = min (sz c) (sz d) → Ov f (chop c a n) (chop d b n) o →
   Ov f (c :: a) (d :: b) ((if d.kind = 1 then [piece c n] else []) ++ o)
theorem yy624 {n : Nat} (h : 0 < n) : Wh ⟨1, (n : Int), []⟩ := .inl ⟨.inl rfl, by show (1 : Int) ≤ n; omega, rfl⟩
structure Chopped (c d p q : CompV) (a b a' b' : List CompV) (n : Nat) : Prop where
 pos : 0 < n
 ea : ∀ vs, ed (c :: a) vs = ed (p :: a') vs
 eb : ∀ vs, ed (d :: b) vs = ed (q :: b') vs
 ia : inS (c :: a) = n + inS a'
 ib : inS (d :: b) = n + inS b'
 oa : outS (c :: a) = outN p + outS a'
 ob : outS (d :: b) = outN q + outS b'
 wa : ∀ x ∈ a', Wh x
 wb : ∀ x ∈ b', Wh x
 wp : Wh p
 wq : Wh q
 kp : p.kind = c.kind
 kq : q.kind = d.kind
 np : p.n.toNat = n
 nq : q.n.toNat = n
theorem yy374 {c d : CompV} {a b : List CompV} {n : Nat} (hc2 : c.kind ≠ 2) (hd2 : d.kind ≠ 2) (hn : n = min (sz c) (sz d)) (ha : ∀ x ∈ c :: a, Wh x) (hb : ∀ x ∈ d :: b, Wh x) :
  Chopped c d (piece c n) (piece d n) a b (chop c a n) (chop d b n) n := by
 have wc := ha c (by simp)
 have wd := hb d (by simp)
 have hc0 := wc.sz; have hd0 := wd.sz
 obtain ⟨c1, c2, c3, c4⟩ := yy620 wc a (n := n) (by omega) (by omega)
 obtain ⟨d1, d2, d3, d4⟩ := yy620 wd b (n := n) (by omega) (by omega)
 have pc := yy238 wc (n := n) (by omega) (by omega)
 have pd := yy238 wd (n := n) (by omega) (by omega)
 have kc := yy189 c n
 have kq := yy189 d n
 have np : (piece c n).n.toNat = n := by have := pc.2; rwa [sz_not (by omega)] at this
 have nq : (piece d n).n.toNat = n := by have := pd.2; rwa [sz_not (by omega)] at this
 have ip : inN (piece c n) = n := by rw [inN, if_neg (by omega), np]
 have iq : inN (piece d n) = n := by rw [inN, if_neg (by omega), nq]
 rw [ip] at c2
 rw [iq] at d2
 exact ⟨by omega, c1, d1, c2, d2, c3, d3, c4 fun x hx => ha x (List.mem_cons_of_mem _ hx), d4 fun x hx => hb x (List.mem_cons_of_mem _ hx), pc.1, pd.1, kc, kq, np, nq⟩
theorem Wh.kind13 {c : CompV} (h : Wh c) (h2 : c.kind ≠ 2) : c.kind = 1 ∨ c.kind = 3 := by
 rcases h.cases with g | g | g <;> omega
theorem Ov.wh {f : Bool} {a b o : List CompV} (h : Ov f a b o) : (∀ x ∈ a, Wh x) → (∀ x ∈ b, Wh x) → inS a = inS b → (∀ x ∈ o, Wh x) ∧ inS o = outS b := by
 induction h with
 | nil => exact fun _ _ _ => ⟨fun x hx => (by cases hx), by rw [yy69, yy311]⟩
 | puts c a b o hk _ _ ih =>
  intro ha hb hn
  rw [yy26, in_two hk, Nat.zero_add] at hn
  have i := ih (fun x hx => ha x (List.mem_cons_of_mem _ hx)) hb hn
  exact ⟨yy470 (ha c (by simp)) i.1, by rw [yy26, in_two hk, i.2, Nat.zero_add]⟩
 | pass a d b o _ hk _ ih =>
  intro ha hb hn
  rw [yy26, in_two hk, Nat.zero_add] at hn
  have i := ih ha (fun x hx => hb x (List.mem_cons_of_mem _ hx)) hn
  exact ⟨yy470 (yy624 (hb d (by simp)).sz) i.1, by rw [yy26, in_one rfl, i.2, yy57, yy133 hk, ← sz_two hk]; rfl⟩
 | both c a d b o n h1 h2 hmin _ ih =>
  intro ha hb hn
  have k := yy374 (a := a) (b := b) h1 h2 hmin ha hb
  have hia := k.ia; have hib := k.ib
  have i := ih k.wa k.wb (by omega)
  have hob := k.ob
  by_cases hd : d.kind = 1
  ·rw [if_pos hd, List.singleton_append]
   have e1 : outN (piece d n) = n := by rw [yy187 (by rw [k.kq]; exact hd), k.nq]
   exact ⟨yy470 k.wp i.1, by rw [yy26, i.2, hob, e1, inN, if_neg (by rw [k.kp]; exact h1), k.np]⟩
  ·rw [if_neg hd, List.nil_append]
   have hd3 : d.kind = 3 := by rcases (hb d (by simp)).kind13 h2 with g | g <;> omega
   have e1 : outN (piece d n) = 0 := yy108 (by rw [k.kq]; exact hd3)
   exact ⟨i.1, by rw [i.2, hob, e1, Nat.zero_add]⟩
theorem Ov.meets {f : Bool} {a b p : List CompV} (h : Ov f a b p) : ∀ {q : List CompV}, Ov (!f) b a q → (∀ x ∈ a, Wh x) → (∀ x ∈ b, Wh x) → inS a = inS b → ∀ vs : List Nat, vs.length = inS a → ed p (ed b vs) = ed q (ed a vs) := by
 induction h with
 | nil =>
  intro q hq _ _ _ vs _
  cases hq
  rfl
 | puts c a b o hk hf _ ih =>
  intro q hq ha hb hn vs hv
  rw [yy26, in_two hk, Nat.zero_add] at hn hv
  have ha' := fun x hx => ha x (List.mem_cons_of_mem _ hx)
  have hz : (cps c.text).length = sz c := (sz_two hk).symm
  cases hq with
  | puts d _ _ _ g gf _ =>
   exfalso
   rcases gf with gf | gf
   ·rcases hf with hf | hf
    ·rw [hf] at gf; cases gf
    ·exact hf g
   ·exact gf hk
  | pass _ _ _ o2 g g2 hq =>
   rw [ed_two hk, ed_two hk, ed_one rfl]
   simp only [Int.toNat_natCast]
   rw [← hz, List.take_left' rfl, List.drop_left' rfl, ih hq ha' hb hn vs hv]
  | both _ _ _ _ _ _ _ g => exact absurd hk g
 | pass a d b o hf hk _ ih =>
  intro q hq ha hb hn vs hv
  rw [yy26, in_two hk, Nat.zero_add] at hn
  have hb' := fun x hx => hb x (List.mem_cons_of_mem _ hx)
  have hz : (cps d.text).length = sz d := (sz_two hk).symm
  cases hq with
  | puts _ _ _ o2 g gf hq =>
   rw [ed_two hk, ed_two hk, ed_one rfl]
   simp only [Int.toNat_natCast]
   rw [← hz, List.take_left' rfl, List.drop_left' rfl, ih hq ha hb' hn vs hv]
  | pass _ c _ _ g g2 _ =>
   exfalso
   have : ¬ (f = true) := fun e => hf ⟨g2, e⟩
   refine g ⟨hk, ?_⟩
   cases f
   ·rfl
   ·exact absurd rfl this
  | both _ _ _ _ _ _ g => exact absurd hk g
 | both c a d b o n h1 h2 hmin _ ih =>
  intro q hq ha hb hn vs hv
  have k := yy374 (a := a) (b := b) h1 h2 hmin ha hb
  have hia := k.ia; have hib := k.ib; have hnp := k.np; have hnq := k.nq; have hkp := k.kp; have hkq := k.kq; have h0 := k.pos
  have hc13 := (ha c (by simp)).kind13 h1
  have hd13 := (hb d (by simp)).kind13 h2
  cases hq with
  | puts _ _ _ _ g => exact absurd g h2
  | pass _ _ _ _ _ g => exact absurd g h1
  | both _ _ _ _ o2 m _ _ hm hq =>
   have hmn : m = n := by omega
   subst hmn
   have e := fun vs hv => ih hq k.wa k.wb (by omega) vs hv
   rw [k.ea, k.eb]
   have hl : (vs.take m).length = m := by rw [List.length_take]; omega
   have e' := e (vs.drop m) (by rw [List.length_drop]; omega)
   generalize piece c m = p at *
   generalize piece d m = q at *
   rcases hc13 with gc | gc <;> rcases hd13 with gd | gd
   ·rw [if_pos gd, if_pos gc, List.singleton_append, List.singleton_append, ed_one (hkp.trans gc), ed_one (hkq.trans gd), ed_one (hkp.trans gc), ed_one (hkq.trans gd), hnp, hnq, List.take_left' hl, List.drop_left' hl, List.take_left' hl, List.drop_left' hl, e']
   ·rw [if_neg (by omega), if_pos gc, List.nil_append, List.singleton_append, yy60 (hkq.trans gd), ed_one (hkp.trans gc), yy60 (hkq.trans gd), hnp, hnq, List.drop_left' hl, e']
   ·rw [if_pos gd, if_neg (by omega), List.nil_append, List.singleton_append, yy60 (hkp.trans gc), ed_one (hkq.trans gd), yy60 (hkp.trans gc), hnp, hnq, List.drop_left' hl, e']
   ·rw [if_neg (by omega), if_neg (by omega), List.nil_append, List.nil_append, yy60 (hkp.trans gc), yy60 (hkq.trans gd), hnp, hnq, e']
theorem Ov.one {f : Bool} {a b o : List CompV} (h : Ov f a b o) : ∀ {o' : List CompV}, Ov f a b o' → o = o' := by
 induction h with
 | nil => intro o' h'; cases h'; rfl
 | puts c a b o hk hf _ ih =>
  intro o' h'
  cases h' with
  | puts _ _ _ o2 _ _ g => rw [ih g]
  | pass _ _ _ _ g g2 =>
   exfalso
   rcases hf with hf | hf
   ·exact g ⟨hk, hf⟩
   ·exact hf g2
  | both _ _ _ _ _ _ g => exact absurd hk g
 | pass a d b o hf hk _ ih =>
  intro o' h'
  cases h' with
  | puts _ _ _ o2 g gf =>
   exfalso
   rcases gf with gf | gf
   ·exact hf ⟨g, gf⟩
   ·exact gf hk
  | pass _ _ _ _ _ _ g => rw [ih g]
  | both _ _ _ _ _ _ _ g => exact absurd hk g
 | both c a d b o n h1 h2 hmin _ ih =>
  intro o' h'
  cases h' with
  | puts _ _ _ o2 g => exact absurd g h1
  | pass _ _ _ _ _ g => exact absurd g h2
  | both _ _ _ _ _ m _ _ hm g => subst hmin; subst hm; rw [ih g]
noncomputable def cmpOf (a b : List CompV) : List CompV := @dite _ (∃ o, Cmp a b o) (Classical.propDecidable _) (fun h => Classical.choose h) (fun _ => [])
theorem yy672 {a b o : List CompV} (h : Cmp a b o) : cmpOf a b = o := by
 unfold cmpOf
 rw [dif_pos ⟨o, h⟩]
 exact Cmp.one (Classical.choose_spec (⟨o, h⟩ : ∃ o, Cmp a b o)) h
noncomputable def ovOf (f : Bool) (a b : List CompV) : List CompV := @dite _ (∃ o, Ov f a b o) (Classical.propDecidable _) (fun h => Classical.choose h) (fun _ => [])
theorem yy727 {f : Bool} {a b o : List CompV} (h : Ov f a b o) : ovOf f a b = o := by
 unfold ovOf
 rw [dif_pos ⟨o, h⟩]
 exact Ov.one (Classical.choose_spec (⟨o, h⟩ : ∃ o, Ov f a b o)) h
noncomputable def rTwo (a b : List CompV) : List CompV × Nat :=
 if rCheck a ≠ 0 then ([], rCheck a) else if rCheck b ≠ 0 then ([], rCheck b) else if rOut a ≠ rBase b then ([], 11) else (yy31 (cmpOf a b), 0)
noncomputable def rOver (f : Bool) (a b : List CompV) : List CompV × Nat :=
 if rCheck a ≠ 0 then ([], rCheck a) else if rCheck b ≠ 0 then ([], rCheck b) else if rBase a ≠ rBase b then ([], 11) else (yy31 (ovOf f a b), 0)
noncomputable def yy673 (s : List CompV × Nat) (x : List CompV) : List CompV × Nat := if s.2 ≠ 0 then s else rTwo s.1 x
noncomputable def rAll (s : List CompV × Nat) (l : List (List CompV)) : List CompV × Nat := l.foldl yy673 s
theorem yy561 {f : Bool} {a b : List CompV} (h : (rOver f a b).2 ≠ 0) : (rOver f a b).1 = [] := by
 unfold rOver at h ⊢
 split
 ·rfl
 ·split
  ·rfl
  ·split
   ·rfl
   ·rename_i h1 h2 h3
    rw [if_neg h1, if_neg h2, if_neg h3] at h
    exact absurd rfl h
theorem rTwo_yes {a b o : List CompV} (ha : rCheck a = 0) (hb : rCheck b = 0) (he : rOut a = rBase b) (h : Cmp a b o) : rTwo a b = (yy31 o, 0) := by
 rw [rTwo, if_neg (by omega), if_neg (by omega), if_neg (by omega), yy672 h]
theorem yy249 {f : Bool} {a b o : List CompV} (ha : rCheck a = 0) (hb : rCheck b = 0) (he : rBase a = rBase b) (h : Ov f a b o) : rOver f a b = (yy31 o, 0) := by
 rw [rOver, if_neg (by omega), if_neg (by omega), if_neg (by omega), yy727 h]
attribute [irreducible] cmpOf ovOf rTwo rOver rAll
end Go.Proofs.YtjpjdkdbgjipnaaDoor
namespace Go.Proofs.YtjpjdkdbgjipnaaDoor
open Go.RowKit Go.Deep
theorem yy485 {l : List Nat} (h : ¬ ∃ vs, V l vs) : cps l = [] := by
 unfold cps
 rw [dif_neg h]
theorem cps_le (l : List Nat) : (cps l).length ≤ l.length := by
 by_cases h : ∃ vs, V l vs
 ·obtain ⟨vs, h⟩ := h
  rw [cps_of h]
  exact h.length_le
 ·rw [yy485 h]
  exact Nat.zero_le _
set_option maxRecDepth 100000 in
theorem yy196 (l : List Nat) (hb : ∀ x ∈ l, x < 256) (hl : l.length ≤ 1099511627776) (w : World) :
  Calls Tryd.prog 30 #[.string (bstr l)] w fun e w' => e = .returned (.int .i64 (((cps l).length : Nat) : Int)) ∧ Below w.heap.size w w' := by
 have HP := xh (yy94 l hb hl w)
 have HC := cps_le l
 have hcb : (cps l).length ≤ 1099511627776 := by omega
 clear HC
 go_enter Tryd.func30, Tryd.ntmps30
 go_wp2_with fail
 refine HP.out.mono ?_
 rintro e w1 ⟨⟨ws, hv, A, c, rfl, _⟩ | ⟨hn, rfl⟩, hbel⟩
 ·rw [yy173]
  have HV := xh (cps_of hv)
  clear hv
  go_wp2
  go_ret
  exact ⟨by rw [HV.out]; rfl, hbel⟩
 ·have HV := xh (yy485 hn)
  clear hn
  go_wp2
  go_ret
  exact ⟨by rw [HV.out]; rfl, hbel⟩
noncomputable def rTotal (l : List NodeV) : Nat := (l.map fun y => (cps y.text).length).sum
theorem yy280 (l : List NodeV) {k : Nat} (h : k < l.length) : rTotal (l.take (k + 1)) = rTotal (l.take k) + (cps l[k].text).length := by
 unfold rTotal
 rw [List.take_succ_eq_append_getElem h, List.map_append, List.sum_append]
 simp
theorem yy415 {l : List NodeV} (ht : ∀ y ∈ l, y.text.length ≤ 1099511627776) : ∀ k, k ≤ l.length → rTotal (l.take k) ≤ k * 1099511627776 := by
 intro k
 induction k with
 | zero => intro _; rw [List.take_zero]; exact Nat.zero_le _
 | succ k ih =>
  intro hk
  have h1 := ih (by omega)
  have h2 := cps_le (l[k]'hk).text
  have h3 := ht _ (List.getElem_mem (show k < l.length from hk))
  rw [yy280 l hk]
  omega
attribute [irreducible] rTotal
theorem yy565 : rTotal ([] : List NodeV) = 0 := by unfold rTotal; rfl
set_option maxHeartbeats 1000000 in
set_option maxRecDepth 100000 in
theorem yy325 (A : Option Addr) (c : Nat) (l : List NodeV) (hl : l.length ≤ 1048576) (hg : ∀ y ∈ l, y.Good) (ht : ∀ y ∈ l, y.text.length ≤ 1099511627776) (w : World) (hA : yy64 w A l) :
  Calls Tryd.prog 51 #[.slice A l.length c] w fun e w' => e = .returned (.int .i64 ((rTotal l : Nat) : Int)) ∧ Below w.heap.size w w' := by
 have HA := xh hA; clear hA
 have HG := xh hg; clear hg
 have HTX := xh ht; clear ht
 have HBD := xh (fun k h => yy415 HTX.out k h)
 go_enter Tryd.func51, Tryd.ntmps51
 go_wp2
 go_loopw [3, 4] (fun t i wr => ∃ (k m : Nat), k ≤ l.length ∧ t = .int .i64 (m : Int) ∧ i = .int .i64 (k : Int) ∧ Hid (rTotal (l.take k) = m) ∧ Hid (Below w.heap.size w wr)) (fun _ i _ => l.length - (intOf i).toNat)
 case atStart => exact ⟨0, 0, Nat.zero_le _, rfl, rfl, by rw [List.take_zero]; exact xh yy565, xh (Below.refl _ _)⟩
 case round =>
  obtain ⟨k, m, hk, rfl, rfl, HM, HB⟩ := hrel
  by_cases hlt : k < l.length
  ·obtain ⟨b, off, rfl, _⟩ := HA.out.form (by omega)
   have hc4 := ((HA.out.below HB.out).at_ hlt).2.2.2.2
   have hmem := List.getElem_mem hlt
   have GC := xh (fun w => yy196 l[k].text (HG.out _ hmem).2.2.2.1 (HTX.out _ hmem) w)
   have HS := xh (yy280 l hlt)
   have h1 := HBD.out (k + 1) hlt
   rw [HM.out] at HS
   generalize l[k].text = tx at hc4 GC HS
   generalize (cps tx).length = n at GC HS
   have hmn : (m : Int) + (n : Int) ≤ 1152921504606846976 := by have := HS.out; omega
   clear h1 hmem
   go_wp2_with fail
   refine (GC.out _).mono ?_
   rintro e w1 ⟨rfl, hb⟩
   have HB1 := xh (HB.out.trans (hb.mono HB.out.size))
   clear hb
   go_wp2
   go_roundw
   case rel => exact ⟨k + 1, m + n, by omega, by go_num, by go_num, HS, HB1⟩
   case measure => simp [intOf]; omega
  ·have HR : Hid (rTotal l = m) := by
    show _ = _
    rw [← HM.out, List.take_of_length_le (by omega)]
   go_wp2
   go_ret
   exact ⟨by rw [HR.out]; rfl, HB.out⟩
def rUp (l : List NodeV) (parent id : Int) : Int := if parent = 0 then 0 else match rFind l parent with
 | none => 5
 | some k => if ((l[k]?).getD default).dir = false then 8 else if 0 < id ∧ yy95 l parent id = true then 10 else 0
def rPlace (l : List NodeV) (parent : Int) (name : List Nat) (id : Int) : Int :=
 if rUp l parent id = 0 then (if 0 ≤ rChild l parent name ∧ rChild l parent name ≠ id then 6 else 0) else rUp l parent id
theorem yy676 {l : List NodeV} {parent : Int} (id : Int) (h : parent ≠ 0) (hf : rFind l parent = none) : rUp l parent id = 5 := by
 unfold rUp; rw [if_neg h, hf]
theorem yy677 {l : List NodeV} {parent : Int} (id : Int) {k : Nat} (hk : k < l.length) (h : parent ≠ 0) (hf : rFind l parent = some k) : rUp l parent id = if l[k].dir = false then 8 else if 0 < id ∧ yy95 l parent id = true then 10 else 0 := by
 unfold rUp
 rw [if_neg h, hf]
 show (if ((l[k]?).getD default).dir = false then _ else _) = _
 rw [List.getElem?_eq_getElem hk]
 rfl
theorem yy566 {l : List NodeV} {parent id : Int} {name : List Nat} {u : Int} (h : rUp l parent id = u) (h0 : u ≠ 0) : rPlace l parent name id = u := by
 unfold rPlace; rw [h, if_neg h0]
theorem yy326 {l : List NodeV} {parent id : Int} {name : List Nat} (h : rUp l parent id = 0) (h1 : 0 ≤ rChild l parent name) (h2 : rChild l parent name ≠ id) : rPlace l parent name id = 6 := by
 unfold rPlace; rw [h, if_pos rfl, if_pos ⟨h1, h2⟩]
attribute [irreducible] rUp rPlace
def nHigh (A : Option Addr) (c : Nat) : Option Addr := if c = 0 then A else A.map (·.add (0 * 5))
def nLow (A : Option Addr) (k c : Nat) : Option Addr := if c = k then A else A.map (·.add (k * 5))
attribute [irreducible] nHigh nLow
end Go.Proofs.YtjpjdkdbgjipnaaDoor
namespace Go.Proofs.YtjpjdkdbgjipnaaDoor
end Go.Proofs.YtjpjdkdbgjipnaaDoor
namespace Go.Proofs.YtjpjdkdbgjipnaaDoor
open Go.RowKit
structure Keep where
 r : World → World → Prop
 refl : ∀ w, r w w
 trans : ∀ {a b c}, r a b → r b c → r a c
def yy18 (l : List Nat) : Keep where
 r w x := w.heap.size ≤ x.heap.size ∧ ∀ k ∈ l, x.heap[k]? = w.heap[k]?
 refl _ := ⟨Nat.le_refl _, fun _ _ => rfl⟩
 trans h1 h2 := ⟨Nat.le_trans h1.1 h2.1, fun k hk => (h2.2 k hk).trans (h1.2 k hk)⟩
def ExtK (R : Keep) (w : World) : Type := { x : World // R.r w x }
instance (R : Keep) (w : World) : Inhabited (ExtK R w) := ⟨⟨w, R.refl _⟩⟩
theorem cell_of_block {w x : World} {b : Nat} (h : x.heap[b]? = w.heap[b]?) (i : Nat) : x.cell? ⟨b, i, none⟩ = w.cell? ⟨b, i, none⟩ := by simp [World.cell?, h]
theorem yy125 {g : Nat} {w x : World} (h : w.heap.size ≤ x.heap.size) (hg : x.heap[g]? = w.heap[g]?) : (yy18 [g]).r w x :=
 ⟨h, fun k hk => by rw [List.mem_singleton.1 hk]; exact hg⟩
theorem yy169 {P : Program} {C : World → Prop} {ρ : Operand → Value} {o : Oper} {x : Operand} (ho : o.op = .nilCheck x) {w : World} {v : Value} (h : Oper.quietUpon P C w v ((execOp ρ o).run P w)) : (execOp ρ o).run P w = .ok (.value v) w := by
 obtain ⟨dst, op, type, pos, after, guard⟩ := o
 simp only at ho
 subst ho
 simp only [execOp] at h ⊢
 generalize ρ x = y at h ⊢
 split at h
 ·simp [runtimePanic, Oper.quietUpon] at h
 ·simp [runtimePanic, Oper.quietUpon] at h
 ·simp [runtimePanic, Oper.quietUpon] at h
 ·revert h
  split
  ·intro h; simp [runtimePanic, Oper.quietUpon] at h
  ·rename_i t u _
   have e : Sem.run P program w = .ok P w := rfl
   simp only [Sem.run_bind, e, Result.andThen_ok]
   generalize Sem.run P (nilAhead (P.types.size + Made.depth) t u _) w = r
   intro h
   cases r with
   | halt e w' => simp only [Result.andThen, Oper.quietUpon] at h
   | ok b w' =>
    simp only [Result.andThen_ok] at h ⊢
    split at h
    ·simp [unsupported, Oper.quietUpon] at h
    ·rename_i hb
     rw [if_neg hb]
     simp only [Sem.run_pure, Oper.quietUpon] at h ⊢
     rw [h.1, h.2]
  ·intro h
   simp only [Sem.run_pure, Oper.quietUpon] at h ⊢
   rw [h.2]
 ·simp only [Sem.run_pure, Oper.quietUpon] at h ⊢
  rw [h.2]
def yy141 (o : Oper) : Bool :=
 match o.op with
 | .nilCheck _ => true
 | _ => yy113 o
theorem yy118 {P : Program} {C : World → Prop} {o : Oper} {a : Act} (hk : yy141 o = true) {w : World} {v : Value} (h : o.quietAt P a C w v) : (execOp a.eval o).run P w = .ok (.value v) w := by
 unfold Oper.quietAt at h
 by_cases hn : ∃ x, o.op = .nilCheck x
 ·obtain ⟨x, hx⟩ := hn
  exact yy169 hx h
 ·have hk' : yy113 o = true := by
   unfold yy141 at hk
   split at hk
   ·rename_i x hx
    exact (hn ⟨_, hx⟩).elim
   ·exact hk
  generalize hr : (execOp a.eval o).run P w = r at h ⊢
  cases r with
  | halt y w' => simp only [Oper.quietUpon] at h
  | ok n w' =>
   obtain ⟨u, rfl⟩ := yy92 hk' hr
   simp only [Oper.quietUpon] at h
   rw [h.1, h.2]
def yy98 (md : Region.Mode) (ops : Array Oper) : List (Nat × Bool) → Array Bool → Bool
 | [], listed => (Region.ready md ops listed).isEmpty
 | (i, true) :: s, listed => (match ops[i]? with | some o => yy141 o | none => false) && (Region.ready md ops listed).contains i && Region.free md ops listed i && yy98 md ops s (listed.setIfInBounds i true)
 | (i, false) :: s, listed => (Region.ready md ops listed == [i]) && yy98 md ops s (listed.setIfInBounds i true)
def wpK (P : Program) (R : Keep) (ops : Array Oper) (Q : Exit → Act → World → Prop) : List (Nat × Bool) → Act → World → Prop
 | [], a, w => Q .normal a w
 | (i, true) :: s, a, w => ∃ o, ops[i]? = some o ∧ if Region.wanted o (yielded ops a.tmps) = true then o.quiet P a (fun x => ∃ e : ExtK R w, x = e.val) (fun a' => wpK P R ops Q s a' w) else wpK P R ops Q s (a.put o.dst undef) w
 | (i, false) :: s, a, w => ∃ o, ops[i]? = some o ∧ if Region.wanted o (yielded ops a.tmps) = true then o.wp P a w (fun a' w' => R.r w w' ∧ wpK P R ops Q s a' w') Q else wpK P R ops Q s (a.put o.dst undef) w
section
variable {P : Program} {R : Keep} {ops : Array Oper} {Q : Exit → Act → World → Prop} {md : Region.Mode}
theorem yy577 (hs : Region.noSelect ops = true) (hQ : ∀ c a d v w, Q (.panic c) (Act.put a d v) w → Q (.panic c) a w) :
  ∀ (s : List (Nat × Bool)) (listed : Array Bool) (a : Act) (w : World), yy98 md ops s listed = true → wpK P R ops Q s a w → wpAnyH P md ops Q (fun x => R.r w x) s.length listed a w := by
 intro s
 induction s with
 | nil =>
  intro listed a w hB h
  exact ⟨by simpa [yy98] using hB, h⟩
 | cons x s ih =>
  intro listed a w hB h
  obtain ⟨i, b⟩ := x
  cases b with
  | true =>
   obtain ⟨o, ho, h⟩ := h
   simp only [yy98, ho, Bool.and_eq_true] at hB
   obtain ⟨⟨⟨hk, hr⟩, hf⟩, hB'⟩ := hB
   split at h
   ·rename_i hw
    obtain ⟨v, hv, hn⟩ := h
    refine wpAnyH_take ho hs hf hr (fun c a w h => hQ c a _ _ w h) (.inl ⟨hw, fun x hx => ?_⟩) (R.refl _) (ih _ _ _ hB' hn)
    exact yy118 hk (hv x ⟨⟨x, hx⟩, rfl⟩)
   ·rename_i hw
    exact wpAnyH_take ho hs hf hr (fun c a w h => hQ c a _ _ w h) (.inr ⟨by simpa using hw, rfl⟩) (R.refl _) (ih _ _ _ hB' h)
  | false =>
   obtain ⟨o, ho, h⟩ := h
   simp only [yy98, Bool.and_eq_true, beq_iff_eq] at hB
   refine wpAnyH_all hB.1 (by simp) (fun j hj => ?_)
   obtain rfl : j = i := by simpa using hj
   unfold wpOp
   simp only [ho]
   split at h
   ·rename_i hw
    rw [if_pos hw]
    refine .inl (Oper.wp_mono (fun a' w' h' => ⟨h'.1, ?_⟩) h)
    exact yy114 (fun x hx => R.trans h'.1 hx) _ _ _ _ (ih _ _ _ hB.2 h'.2)
   ·rename_i hw
    rw [if_neg hw]
    exact ⟨R.refl _, ih _ _ _ hB.2 h⟩
theorem yy261 (R : Keep) {id : Nat} {a : Act} {w : World} (s : List (Nat × Bool)) (hm : P.follows .mixedOrders = true) (hs : (Region.noSelect ops && (s.length == ops.size) && yy98 .any ops s (Array.replicate ops.size false)) = true)
  (hQ : ∀ c a d v w, Q (.panic c) (Act.put a d v) w → Q (.panic c) a w) (h : wpK P R ops Q s a w.drew) : (Code.region id ops true).wp P Q a w := by
 simp only [Bool.and_eq_true, beq_iff_eq] at hs
 refine wp_region_held (S := fun x => R.r w.drew x) hm ?_
 have := yy577 (md := .any) hs.1.1 hQ s _ a w.drew hs.2 h
 rw [hs.1.2] at this
 exact this
def wpH (P : Program) (R : Keep) (ops : Array Oper) (Q : Exit → Act → World → Prop) : List (Oper × Bool) → Act → World → Prop
 | [], a, w => Q .normal a w
 | (o, true) :: s, a, w => if Region.wanted o (yielded ops a.tmps) = true then o.quiet P a (fun x => ∃ e : ExtK R w, x = e.val) (fun a' => wpH P R ops Q s a' w) else wpH P R ops Q s (a.put o.dst undef) w
 | (o, false) :: s, a, w => if Region.wanted o (yielded ops a.tmps) = true then o.wp P a w (fun a' w' => R.r w w' ∧ wpH P R ops Q s a' w') Q else wpH P R ops Q s (a.put o.dst undef) w
theorem yy99 {ops : List Oper} : ∀ (s : List (Nat × Bool)) (a : Act) (w : World), (∀ x ∈ s, x.1 < ops.length) → wpH P R ops.toArray Q (picked ops s) a w → wpK P R ops.toArray Q s a w
 | [], _, _, _, h => h
 | (i, true) :: s, a, w, hl, h => by
  have hi : i < ops.length := hl (i, true) (List.mem_cons_self ..)
  refine ⟨ops[i], by simp [hi], ?_⟩
  have e : (ops[i]?).getD default = ops[i] := by simp [hi]
  simp only [picked, List.map_cons, wpH, e] at h
  split at h
  ·rename_i hw
   rw [if_pos hw]
   exact Oper.quiet_mono (fun a' h' => yy99 s a' w (fun x hx => hl x (List.mem_cons_of_mem _ hx)) h') h
  ·rename_i hw
   rw [if_neg hw]
   exact yy99 s _ w (fun x hx => hl x (List.mem_cons_of_mem _ hx)) h
 | (i, false) :: s, a, w, hl, h => by
  have hi : i < ops.length := hl (i, false) (List.mem_cons_self ..)
  refine ⟨ops[i], by simp [hi], ?_⟩
  have e : (ops[i]?).getD default = ops[i] := by simp [hi]
  simp only [picked, List.map_cons, wpH, e] at h
  split at h
  ·rename_i hw
   rw [if_pos hw]
   exact Oper.wp_mono (fun a' w' h' => ⟨h'.1, yy99 s a' w' (fun x hx => hl x (List.mem_cons_of_mem _ hx)) h'.2⟩) h
  ·rename_i hw
   rw [if_neg hw]
   exact yy99 s _ w (fun x hx => hl x (List.mem_cons_of_mem _ hx)) h
theorem yy28 (R : Keep) {id : Nat} {ops : List Oper} {a : Act} {w : World} (s : List (Nat × Bool)) (hm : P.follows .mixedOrders = true)
  (hs : (Region.noSelect ops.toArray && (s.length == ops.toArray.size) && yy98 .any ops.toArray s (Array.replicate ops.toArray.size false) && s.all fun x => decide (x.1 < ops.length)) = true)
  (hQ : ∀ c a d v w, Q (.panic c) (Act.put a d v) w → Q (.panic c) a w) (h : wpH P R ops.toArray Q (picked ops s) a w.drew) : (Code.region id ops.toArray true).wp P Q a w := by
 rw [Bool.and_eq_true] at hs
 exact yy261 R s hm hs.1 hQ (yy99 s a w.drew (fun x hx => of_decide_eq_true (List.all_eq_true.1 hs.2 x hx)) h)
theorem yy142 {a : Act} {w : World} (h : Q .normal a w) : wpH P R ops Q [] a w := h
theorem yy158 {b : Bool} {s : List (Oper × Bool)} {o : Oper} {a : Act} {w : World} (hw : Region.wanted o (yielded ops a.tmps) = false) (h : wpH P R ops Q s (a.put o.dst undef) w) : wpH P R ops Q ((o, b) :: s) a w := by
 cases b <;> (simp only [wpH]; rw [if_neg (by rw [hw]; exact Bool.false_ne_true)]; exact h)
theorem yy44 {s : List (Oper × Bool)} {o : Oper} {a : Act} {w : World} (hw : Region.wanted o (yielded ops a.tmps) = true)
  (h : ∀ K : Act → Prop, (∀ a', wpH P R ops Q s a' w → K a') → o.quiet P a (fun x => ∃ e : ExtK R w, x = e.val) K) : wpH P R ops Q ((o, true) :: s) a w := by
 simp only [wpH]; rw [if_pos hw]; exact h _ fun _ h => h
theorem yy165 {s : List (Oper × Bool)} {o : Oper} {a : Act} {w : World} (hw : Region.wanted o (yielded ops a.tmps) = true)
  (h : ∀ K : Act → World → Prop, (∀ a' w', R.r w w' → wpH P R ops Q s a' w' → K a' w') → o.wp P a w K Q) : wpH P R ops Q ((o, false) :: s) a w := by
 simp only [wpH]; rw [if_pos hw]; exact h _ fun _ _ h1 h2 => ⟨h1, h2⟩
end
attribute [irreducible] wpH
end Go.Proofs.YtjpjdkdbgjipnaaDoor
namespace Go.Proofs.YtjpjdkdbgjipnaaDoor
open Go.RowKit Go.Deep
namespace Tk
variable {B g ga gb : Nat} {l : List CompV} {at_ n : Nat} {f h : Nat → Value} {w0 w w' : World}
end Tk
end Go.Proofs.YtjpjdkdbgjipnaaDoor
namespace Go.Proofs.YtjpjdkdbgjipnaaDoor
noncomputable def rest (l : List CompV) (i n : Nat) : List CompV := match l.drop i with | [] => [] | c :: r => cut c n :: r
structure Pos (l : List CompV) (i n : Nat) : Prop where
 le : i ≤ l.length
 at_ : ∀ h : i < l.length, n < sz l[i]
noncomputable def wt : List CompV → Nat
 | [] => 0
 | c :: l => sz c + wt l
theorem yy734 (c : CompV) (l : List CompV) : wt (c :: l) = sz c + wt l := rfl
theorem wt_in : ∀ (l : List CompV), (∀ c ∈ l, Wh c) → wt l ≤ inS l + outS l ∧ (∀ c ∈ l, sz c ≤ inS l + outS l)
 | [], _ => ⟨Nat.zero_le _, fun c hc => by cases hc⟩
 | c :: l, hw => by
  have ih := wt_in l fun x hx => hw x (List.mem_cons_of_mem _ hx)
  have hc : sz c ≤ inN c + outN c := by
   rcases (hw c (by simp)).cases with ⟨g, _⟩ | ⟨g, _⟩ | ⟨g, _⟩
   ·rw [sz_not (by omega), in_one g]; omega
   ·rw [sz_not (by omega), yy72 g]; omega
   ·rw [sz_two g, yy133 g]; omega
  rw [yy734, yy26, yy57]
  refine ⟨by omega, fun x hx => ?_⟩
  rcases List.mem_cons.1 hx with rfl | hx
  ·omega
  ·have := ih.2 x hx; omega
theorem E_len4 : ∀ vs : List Nat, (E vs).length ≤ 4 * vs.length
 | [] => by rw [E_nil]; simp
 | v :: vs => by
  have := E_len4 vs
  have := enc_le v
  rw [E_cons, List.length_append, List.length_cons]
  omega
def Small1 (c : CompV) : Prop := c.text.length ≤ 16000
theorem yy423 {c : CompV} (h : Wh c) {k : Nat} (hs : sz c ≤ 4000) : Small1 (piece c k) := by
 rcases h.cases with ⟨g, _⟩ | ⟨g, _⟩ | ⟨g, _, _, gv⟩
 ·have e : piece c k = ⟨c.kind, k, []⟩ := if_neg (by omega)
  rw [e]; exact Nat.zero_le _
 ·have e : piece c k = ⟨c.kind, k, []⟩ := if_neg (by omega)
  rw [e]; exact Nat.zero_le _
 ·have e : piece c k = ⟨2, 0, E ((cps c.text).take k)⟩ := if_pos g
  rw [e]
  show (E ((cps c.text).take k)).length ≤ 16000
  have := E_len4 ((cps c.text).take k)
  rw [List.length_take] at this
  rw [sz_two g] at hs
  omega
theorem yy201 : ∀ (l : List CompV), (∀ x ∈ l, Small1 x) → tlen l ≤ l.length * 16000
 | [], _ => by simp [tlen]
 | c :: l, h => by
  have := yy201 l fun x hx => h x (List.mem_cons_of_mem _ hx)
  have h1 : c.text.length ≤ 16000 := h c (by simp)
  rw [show tlen (c :: l) = c.text.length + tlen l by simp [tlen], List.length_cons]
  omega
attribute [irreducible] wt
theorem wh_n : ∀ (l : List CompV), (∀ c ∈ l, Wh c) → ∀ c ∈ l, 0 ≤ c.n ∧ c.n ≤ ((inS l + outS l : Nat) : Int)
 | [], _, c, hc => by cases hc
 | d :: l, hw, c, hc => by
  rw [yy26, yy57]
  rcases List.mem_cons.1 hc with rfl | hc
  ·rcases (hw c (by simp)).cases with ⟨g, gn, _⟩ | ⟨g, gn, _⟩ | ⟨g, gn, _⟩
   ·rw [in_one g]; omega
   ·rw [yy72 g]; omega
   ·omega
  ·have := wh_n l (fun x hx => hw x (List.mem_cons_of_mem _ hx)) c hc
   omega
theorem yy578 {o : List CompV} (hw : ∀ c ∈ o, Wh c) (hs : ∀ x ∈ o, Small1 x) (hl : o.length ≤ 8000) (hi : inS o ≤ 4000) (ho : outS o ≤ 4000) : Held1 (yy31 o) := by
 have htl := yy201 o hs
 have hg : ∀ y ∈ o, y.Good := fun y hy => by
  have h1 := wh_n o hw y hy
  have h2 : y.text.length ≤ 16000 := hs y hy
  refine ⟨?_, ?_, ?_, by unfold maxLen; omega⟩
  ·rcases (hw y hy).cases with ⟨g, _⟩ | ⟨g, _⟩ | ⟨g, _⟩ <;> (rw [g]; unfold Fit64; omega)
  ·unfold Fit64; omega
  ·rcases (hw y hy).cases with ⟨_, _, g⟩ | ⟨_, _, g⟩ | ⟨_, _, _, vs, g⟩
   ·rw [g]; exact fun x hx => by cases hx
   ·rw [g]; exact fun x hx => by cases hx
   ·rw [← g.bytes]; exact E_lt g.may
 have h2 := yy654 o
 have h3 := yy235 o
 exact ⟨yy551 o hg (by omega), by omega, by omega⟩
theorem yy735 {f : Bool} {a b o : List CompV} (h : Ov f a b o) : (∀ x ∈ a, Wh x) → (∀ x ∈ b, Wh x) → inS a = inS b → outS o ≤ outS a + outS b := by
 induction h with
 | nil => intro _ _ _; rw [yy311]; omega
 | puts c a b o hk _ _ ih =>
  intro ha hb hn
  rw [yy26, in_two hk, Nat.zero_add] at hn
  have := ih (fun x hx => ha x (List.mem_cons_of_mem _ hx)) hb hn
  rw [yy57, yy57]; omega
 | pass a d b o _ hk _ ih =>
  intro ha hb hn
  rw [yy26, in_two hk, Nat.zero_add] at hn
  have := ih ha (fun x hx => hb x (List.mem_cons_of_mem _ hx)) hn
  have e : outN (⟨1, (sz d : Int), []⟩ : CompV) = sz d := by rw [yy187 rfl]; rfl
  rw [yy57, yy57, e, yy133 hk, sz_two hk]; omega
 | both c a d b o n h1 h2 hmin _ ih =>
  intro ha hb hn
  have k := yy374 (a := a) (b := b) h1 h2 hmin ha hb
  have hia := k.ia; have hib := k.ib; have hoa := k.oa; have hob := k.ob
  have := ih k.wa k.wb (by omega)
  by_cases hd : d.kind = 1
  ·rw [if_pos hd, List.singleton_append, yy57]; omega
  ·rw [if_neg hd, List.nil_append]; omega
theorem yy736 {f : Bool} {a b o : List CompV} (ha : rCheck a = 0) (hb : rCheck b = 0) (he : rBase a = rBase b) (h : Ov f a b o) (hs : ∀ x ∈ o, Small1 x) (hl : o.length ≤ 8000) : Held1 (yy31 o) ∧ (∀ x ∈ o, Wh x) ∧ inS o = outS b := by
 have ka := ok_of ha
 have kb := ok_of hb
 have e1 := ka.base; have e2 := kb.base
 have c := h.wh ka.wh kb.wh (by omega)
 have i2 := yy735 h ka.wh kb.wh (by omega)
 have i1 := c.2; have i3 := ka.out1; have i4 := kb.out1
 exact ⟨yy578 c.1 hs hl (by omega) (by omega), c⟩
def plain (c : CompV) : CompV := if c.kind = 2 then ⟨2, 0, c.text⟩ else c
theorem nStep_plain (s : NS) (c : CompV) : nStep s (plain c) = nStep s c := by
 unfold plain
 by_cases h : c.kind = 2
 ·rw [if_pos h]
  unfold nStep
  rw [if_pos rfl, if_pos h]
 ·rw [if_neg h]
theorem norm_plain (l : List CompV) : yy31 (l.map plain) = yy31 l := by
 have : ∀ (l : List CompV) (s : NS), (l.map plain).foldl nStep s = l.foldl nStep s := by
  intro l
  induction l with
  | nil => intro s; rfl
  | cons c l ih => intro s; rw [List.map_cons, List.foldl_cons, List.foldl_cons, nStep_plain, ih]
 rw [yy31, yy31, nRun, nRun, this]
theorem yy202 (c : CompV) : (plain c).text = c.text := by unfold plain; split <;> rfl
theorem tlen_plain (l : List CompV) : tlen (l.map plain) = tlen l := by
 unfold tlen
 congr 1
 rw [List.flatMap_map]
 congr 1
 funext c
 exact yy202 c
theorem yy501 {c : CompV} (h : Wh c) (hs : sz c ≤ 4000) : Small1 c := by
 have := yy423 h (k := sz c) hs
 rwa [yy367 h] at this
theorem yy388 {c : CompV} {l : List CompV} {n : Nat} (hc : Wh c ∧ sz c ≤ 4000) (hl : ∀ x ∈ l, Wh x ∧ sz x ≤ 4000) (hn : n ≤ sz c) : ∀ x ∈ chop c l n, Wh x ∧ sz x ≤ 4000 := by
 unfold chop
 split
 ·exact hl
 ·intro x hx
  rcases List.mem_cons.1 hx with rfl | hx
  ·have := cut_wh hc.1 (n := n) (by omega)
   exact ⟨this.1, by have := hc.2; omega⟩
  ·exact hl x hx
end Go.Proofs.YtjpjdkdbgjipnaaDoor
namespace Go.Proofs.YtjpjdkdbgjipnaaDoor
open Go.RowKit Go.Deep
namespace St
variable {B gx gy base : Nat} {a b : List CompV} {w0 w w' : World} {i n j m : Nat} {o : List CompV} {A : Option Addr} {c : Nat}
end St
set_option maxHeartbeats 4000000 in
set_option maxRecDepth 100000 in
theorem yy215 (A B : Option Addr) (ca cb : Nat) (l m : List ActV) (hl : l.length ≤ maxLen) (hm : m.length ≤ maxLen) (hgl : ∀ y ∈ l, y.Good) (hgm : ∀ y ∈ m, y.Good) (w : World) (hA : ActsAt w A l) (hB : ActsAt w B m) :
  Calls Tryd.prog 17 #[.slice A l.length ca, .slice B m.length cb] w fun e w' => e = .returned (.bool (sameAs l m)) ∧ Below w.heap.size w w' := by
 unfold maxLen at hl hm
 have HA := xh hA; clear hA
 have HB := xh hB; clear hB
 obtain ⟨T, HT⟩ : ∃ T, Hid (sameAs l m = T) := ⟨_, xh rfl⟩
 rw [HT.out]
 by_cases hlen : l.length = m.length
 ·rw [← hlen]
  have HLEN := xh hlen
  clear hlen
  go_enter Tryd.func17, Tryd.ntmps17
  go_wp2
  go_loopw [5] (fun i wr => ∃ k : Nat, k ≤ l.length ∧ i = .int .i64 k ∧ Hid ((l.take k).map aKey = (m.take k).map aKey) ∧ Hid (Below w.heap.size w wr)) (fun i _ => l.length - (intOf i).toNat)
  case atStart => exact ⟨0, Nat.zero_le _, rfl, xh rfl, xh (Below.refl _ _)⟩
  case round =>
   obtain ⟨k, hk, rfl, HTK, HBEL⟩ := hrel
   by_cases hlt : k < l.length
   ·have hlt2 : k < m.length := by have := HLEN.out; omega
    have hltI : (k : Int) < (l.length : Int) := by omega
    obtain ⟨b1, o1, rfl, _⟩ := HA.out.form (by omega)
    obtain ⟨b2, o2, rfl, _⟩ := HB.out.form (by omega)
    have HX : Hid (∀ X : World, Below w.heap.size w X → _) := xh (fun X h => (HA.out.below h).at_ hlt)
    have HY : Hid (∀ X : World, Below w.heap.size w X → _) := xh (fun X h => (HB.out.below h).at_ hlt2)
    have HYES : Hid (aKey l[k] = aKey m[k] → (l.take (k + 1)).map aKey = (m.take (k + 1)).map aKey) := xh (fun h => by rw [List.take_succ_eq_append_getElem hlt, List.take_succ_eq_append_getElem hlt2, List.map_append, List.map_append, HTK.out, List.map_singleton, List.map_singleton, h])
    have HNO : Hid (aKey l[k] ≠ aKey m[k] → T = false) := xh (fun h => by
     rw [← HT.out]
     refine yy385 fun e => h ?_
     have e2 := congrArg (fun q => q[k]?) e
     simpa [List.getElem?_map, List.getElem?_eq_getElem hlt, List.getElem?_eq_getElem hlt2] using e2)
    have GS := xh (fun (w' : World) (h : Below w.heap.size w w') => yy148 l[k] m[k] (hgl _ (List.getElem_mem hlt)) (hgm _ (List.getElem_mem hlt2)) w' ((HA.out.below h).2 _ (List.getElem_mem hlt)) ((HB.out.below h).2 _ (List.getElem_mem hlt2)))
    clear hgl hgm
    generalize l[k] = c at HX HYES HNO GS
    generalize m[k] = d at HY HYES HNO GS
    obtain ⟨S, HSS⟩ : ∃ S, Hid (sameA c d = S) := ⟨_, xh rfl⟩
    rw [HSS.out] at GS
    unfold yy0 at GS
    have hb0 := Below.drew HBEL.out
    go_wp2_with fail
    refine wp_region_lit sc6 (by kernel_rfl) (by kernel_rfl) (fun _ _ d _ _ h => by cases d <;> exact h) ?_
    simp only [picked, sc6, xmc, xmn, xgs, xgz, xgd]
    generalize wr.drew = wd at hb0 ⊢
    have HB0 := xh hb0
    clear hb0
    have p0 := fun e : Ext wd => (HX.out e.val (HB0.out.trans (e.property.mono HB0.out.size))).1
    have p1 := fun e : Ext wd => (HX.out e.val (HB0.out.trans (e.property.mono HB0.out.size))).2.1
    have p2 := fun e : Ext wd => (HX.out e.val (HB0.out.trans (e.property.mono HB0.out.size))).2.2.1
    have p3 := fun e : Ext wd => (HX.out e.val (HB0.out.trans (e.property.mono HB0.out.size))).2.2.2.1
    have p4 := fun e : Ext wd => (HX.out e.val (HB0.out.trans (e.property.mono HB0.out.size))).2.2.2.2.1
    have p5 := fun e : Ext wd => (HX.out e.val (HB0.out.trans (e.property.mono HB0.out.size))).2.2.2.2.2
    have q0 := fun e : Ext wd => (HY.out e.val (HB0.out.trans (e.property.mono HB0.out.size))).1
    have q1 := fun e : Ext wd => (HY.out e.val (HB0.out.trans (e.property.mono HB0.out.size))).2.1
    have q2 := fun e : Ext wd => (HY.out e.val (HB0.out.trans (e.property.mono HB0.out.size))).2.2.1
    have q3 := fun e : Ext wd => (HY.out e.val (HB0.out.trans (e.property.mono HB0.out.size))).2.2.2.1
    have q4 := fun e : Ext wd => (HY.out e.val (HB0.out.trans (e.property.mono HB0.out.size))).2.2.2.2.1
    have q5 := fun e : Ext wd => (HY.out e.val (HB0.out.trans (e.property.mono HB0.out.size))).2.2.2.2.2
    repeat (refine yy3 (by rfl) (fun K hK => ?_); go_big_quiet_op; refine hK _ ?_; clear hK K)
    clear p0 p1 p2 p3 p4 p5 q0 q1 q2 q3 q4 q5
    refine yy16 (by rfl) (fun K hK => ?_)
    go_simp
    refine (GS.out _ HB0.out).mono ?_
    rintro e x1 ⟨rfl, hb⟩
    have HB1 := xh (HB0.out.trans (hb.mono HB0.out.size))
    refine hK _ _ hb ?_
    clear hK K hb GS
    repeat (refine yy3 (by rfl) (fun K hK => ?_); go_big_quiet_op; refine hK _ ?_; clear hK K)
    refine yy39 ?_
    cases S with
    | true =>
     have HE : Hid (aKey c = aKey d) := by
      show _
      by_cases h : aKey c = aKey d
      ·exact xh h
      ·have := HSS.out
       rw [yy59 h] at this
       cases this
     have HR := xh (HYES.out HE.out)
     clear HYES HNO
     go_wp2
     go_roundw
     case rel => exact ⟨k + 1, by omega, by go_num, HR, HB1⟩
     case measure => simp [intOf]; omega
    | false =>
     have HF := xh (HNO.out fun h => by
      have := HSS.out
      rw [yy137 h] at this
      cases this)
     go_wp2
     go_ret
     exact ⟨by rw [HF.out]; rfl, HB1.out⟩
   ·have HF : Hid (T = true) := by
     show T = true
     rw [← HT.out]
     apply yy288
     have := HTK.out
     rwa [List.take_of_length_le (by omega), List.take_of_length_le (by have := HLEN.out; omega)] at this
    go_wp2
    go_ret
    exact ⟨by rw [HF.out]; rfl, HBEL.out⟩
 ·have HF : Hid (T = false) := by show T = false; rw [← HT.out]; exact yy385 fun h => hlen (by have := congrArg List.length h; simpa using this)
  have g0 : ((l.length : Int) == (m.length : Int)) = false := xn (by omega)
  have g0' : ((l.length : Int) != (m.length : Int)) = true := bne_iff_ne.2 (by omega)
  clear hlen
  go_enter Tryd.func17, Tryd.ntmps17
  go_wp2
  go_ret
  exact ⟨by rw [HF.out]; rfl, Below.refl _ _⟩
end Go.Proofs.YtjpjdkdbgjipnaaDoor
