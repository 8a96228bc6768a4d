/- Two walks of the document's own, side by side, and the parts made so far. No condition. (Merged of 5 texts.) -/
import Derived.Test.YtjpjdkdbgjipnaaGreatDoorU7
import Derived.Test.YtjpjdkdbgjipnaaGreatDoorU41
import Derived.Test.YtjpjdkdbgjipnaaGreatDoorU19
namespace Go.Proofs.YtjpjdkdbgjipnaaGreatDoor
open Go.RowKit Go.Deep
structure Held1 (l : List CompV) : Prop where
 good : ∀ y ∈ l, y.Good
 len : l.length ≤ 1073741824
 text : tlen l ≤ 1073741824
theorem Held1.fine {l : List CompV} (h : Held1 l) : Fine1 l := fun y hy => ⟨h.good y hy, by have := yy336 hy; have := h.text; omega⟩
theorem yy172 : Held1 [] := ⟨fun y hy => (by cases hy), Nat.zero_le _, Nat.zero_le _⟩
theorem Held1.max {l : List CompV} (h : Held1 l) : l.length ≤ maxLen := by have := h.len; unfold maxLen; omega
theorem yy641 {l : List CompV} (hg : ∀ y ∈ l, y.Good) {k : Nat} (h : 2 * l.length + tlen l ≤ k) (hk : k ≤ 1073741824) : Held1 l := ⟨hg, by omega, by omega⟩
end Go.Proofs.YtjpjdkdbgjipnaaGreatDoor
namespace Go.Proofs.YtjpjdkdbgjipnaaGreatDoor
noncomputable def rest (l : List CompV) (i n : Nat) : List CompV := match l.drop i with | [] => [] | c :: r => cut c n :: r
structure Pos (l : List CompV) (i n : Nat) : Prop where
 le : i ≤ l.length
 at_ : ∀ h : i < l.length, n < sz l[i]
theorem yy251 {l : List CompV} {i : Nat} (h : i < l.length) (n : Nat) : rest l i n = cut l[i] n :: l.drop (i + 1) := by
 rw [rest, List.drop_eq_getElem_cons h]
theorem rest_end {l : List CompV} {i : Nat} (h : l.length ≤ i) (n : Nat) : rest l i n = [] := by
 rw [rest, List.drop_eq_nil_of_le h]
theorem rest_start {l : List CompV} (hw : ∀ c ∈ l, Wh c) : rest l 0 0 = l := by
 cases l with
 | nil => rfl
 | cons c r => rw [rest, List.drop_zero]; simp only; rw [yy490 (hw c (by simp))]
theorem yy412 {l : List CompV} (hw : ∀ c ∈ l, Wh c) : Pos l 0 0 := ⟨Nat.zero_le _, fun h => (hw _ (List.getElem_mem h)).sz⟩
theorem yy598 (l : List CompV) (i n : Nat) : kd (rest l i n) = kindOf l i := by
 rcases Nat.lt_or_ge i l.length with h | h
 ·rw [yy251 h, kindOf, List.getElem?_eq_getElem h]
  exact yy82 _ _
 ·rw [rest_end h, kindOf, List.getElem?_eq_none h]
  rfl
theorem yy599 {l : List CompV} (hw : ∀ c ∈ l, Wh c) {i n k : Nat} (h : i < l.length) (hn : n < sz l[i]) (h0 : 0 < k) (hk : n + k ≤ sz l[i]) :
  rest l (if n + k = sz l[i] then i + 1 else i) (if n + k = sz l[i] then 0 else n + k) = chop (cut l[i] n) (l.drop (i + 1)) k ∧
  Pos l (if n + k = sz l[i] then i + 1 else i) (if n + k = sz l[i] then 0 else n + k) := by
 have wc := hw _ (List.getElem_mem h)
 have hs := (cut_wh wc hn).2
 by_cases e : n + k = sz l[i]
 ·rw [if_pos e, if_pos e, chop, if_pos (by omega)]
  refine ⟨?_, by omega, fun h2 => (hw _ (List.getElem_mem h2)).sz⟩
  rcases Nat.lt_or_ge (i + 1) l.length with h2 | h2
  ·rw [yy251 h2, yy490 (hw _ (List.getElem_mem h2)), ← List.drop_eq_getElem_cons h2]
  ·rw [rest_end h2, List.drop_eq_nil_of_le h2]
 ·rw [if_neg e, if_neg e, chop, if_neg (by omega), yy251 h, yy727 wc]
  exact ⟨rfl, by omega, fun _ => by omega⟩
noncomputable def wt : List CompV → Nat
 | [] => 0
 | c :: l => sz c + wt l
theorem yy127 (c : CompV) (l : List CompV) : wt (c :: l) = sz c + wt l := rfl
theorem wt_in : ∀ (l : List CompV), (∀ c ∈ l, Wh c) → wt l ≤ inS l + outS l ∧ (∀ c ∈ l, sz c ≤ inS l + outS l)
 | [], _ => ⟨Nat.zero_le _, fun c hc => by cases hc⟩
 | c :: l, hw => by
  have ih := wt_in l fun x hx => hw x (List.mem_cons_of_mem _ hx)
  have hc : sz c ≤ inN c + outN c := by
   rcases (hw c (by simp)).cases with ⟨g, _⟩ | ⟨g, _⟩ | ⟨g, _⟩
   ·rw [sz_not (by omega), in_one g]; omega
   ·rw [sz_not (by omega), yy65 g]; omega
   ·rw [sz_two g, yy145 g]; omega
  rw [yy127, yy28, yy60]
  refine ⟨by omega, fun x hx => ?_⟩
  rcases List.mem_cons.1 hx with rfl | hx
  ·omega
  ·have := ih.2 x hx; omega
theorem yy649 {c : CompV} (h : Wh c) (l : List CompV) {k : Nat} (hk : k ≤ sz c) : wt (chop c l k) + k = sz c + wt l := by
 by_cases e : k = sz c
 ·rw [chop, if_pos e]; omega
 ·rw [chop, if_neg e, yy127, (cut_wh h (by omega)).2]; omega
theorem yy74 {l : List CompV} (hw : ∀ c ∈ l, Wh c) {i n : Nat} (h : Pos l i n) : ∀ c ∈ rest l i n, Wh c := by
 rcases Nat.lt_or_ge i l.length with hi | hi
 ·rw [yy251 hi]
  exact yy396 (cut_wh (hw _ (List.getElem_mem hi)) (h.at_ hi)).1 fun x hx => hw x (List.mem_of_mem_drop hx)
 ·rw [rest_end hi]
  exact fun c hc => by cases hc
theorem E_len4 : ∀ vs : List Nat, (E vs).length ≤ 4 * vs.length
 | [] => by rw [E_nil]; simp
 | v :: vs => by
  have := E_len4 vs
  have := enc_le v
  rw [E_cons, List.length_append, List.length_cons]
  omega
def Small1 (c : CompV) : Prop := c.text.length ≤ 16000
theorem yy178 {c : CompV} (h : Wh c) {k : Nat} (hs : sz c ≤ 4000) : Small1 (piece c k) := by
 rcases h.cases with ⟨g, _⟩ | ⟨g, _⟩ | ⟨g, _, _, gv⟩
 ·have e : piece c k = ⟨c.kind, k, []⟩ := if_neg (by omega)
  rw [e]; exact Nat.zero_le _
 ·have e : piece c k = ⟨c.kind, k, []⟩ := if_neg (by omega)
  rw [e]; exact Nat.zero_le _
 ·have e : piece c k = ⟨2, 0, E ((cps c.text).take k)⟩ := if_pos g
  rw [e]
  show (E ((cps c.text).take k)).length ≤ 16000
  have := E_len4 ((cps c.text).take k)
  rw [List.length_take] at this
  rw [sz_two g] at hs
  omega
theorem yy156 : ∀ (l : List CompV), (∀ x ∈ l, Small1 x) → tlen l ≤ l.length * 16000
 | [], _ => by simp [tlen]
 | c :: l, h => by
  have := yy156 l fun x hx => h x (List.mem_cons_of_mem _ hx)
  have h1 : c.text.length ≤ 16000 := h c (by simp)
  rw [show tlen (c :: l) = c.text.length + tlen l by simp [tlen], List.length_cons]
  omega
theorem yy314 {l : List CompV} {c : CompV} (h1 : ∀ x ∈ l, Small1 x) (h2 : Small1 c) : ∀ x ∈ l ++ [c], Small1 x := fun x hx => by
 rcases List.mem_append.1 hx with hx | hx
 ·exact h1 x hx
 ·rw [List.mem_singleton.1 hx]; exact h2
attribute [irreducible] wt
theorem wh_n : ∀ (l : List CompV), (∀ c ∈ l, Wh c) → ∀ c ∈ l, 0 ≤ c.n ∧ c.n ≤ ((inS l + outS l : Nat) : Int)
 | [], _, c, hc => by cases hc
 | d :: l, hw, c, hc => by
  rw [yy28, yy60]
  rcases List.mem_cons.1 hc with rfl | hc
  ·rcases (hw c (by simp)).cases with ⟨g, gn, _⟩ | ⟨g, gn, _⟩ | ⟨g, gn, _⟩
   ·rw [in_one g]; omega
   ·rw [yy65 g]; omega
   ·omega
  ·have := wh_n l (fun x hx => hw x (List.mem_cons_of_mem _ hx)) c hc
   omega
theorem yy600 {o : List CompV} (hw : ∀ c ∈ o, Wh c) (hs : ∀ x ∈ o, Small1 x) (hl : o.length ≤ 8000) (hi : inS o ≤ 4000) (ho : outS o ≤ 4000) : Held1 (yy19 o) := by
 have htl := yy156 o hs
 have hg : ∀ y ∈ o, y.Good := fun y hy => by
  have h1 := wh_n o hw y hy
  have h2 : y.text.length ≤ 16000 := hs y hy
  refine ⟨?_, ?_, ?_, by unfold maxLen; omega⟩
  ·rcases (hw y hy).cases with ⟨g, _⟩ | ⟨g, _⟩ | ⟨g, _⟩ <;> (rw [g]; unfold Fit64; omega)
  ·unfold Fit64; omega
  ·rcases (hw y hy).cases with ⟨_, _, g⟩ | ⟨_, _, g⟩ | ⟨_, _, _, vs, g⟩
   ·rw [g]; exact fun x hx => by cases hx
   ·rw [g]; exact fun x hx => by cases hx
   ·rw [← g.bytes]; exact E_lt g.may
 have h2 := yy667 o
 have h3 := yy263 o
 exact ⟨yy575 o hg (by omega), by omega, by omega⟩
theorem yy742 {f : Bool} {a b o : List CompV} (h : Ov f a b o) : (∀ x ∈ a, Wh x) → (∀ x ∈ b, Wh x) → inS a = inS b → outS o ≤ outS a + outS b := by
 induction h with
 | nil => intro _ _ _; rw [yy488]; omega
 | puts c a b o hk _ _ ih =>
  intro ha hb hn
  rw [yy28, in_two hk, Nat.zero_add] at hn
  have := ih (fun x hx => ha x (List.mem_cons_of_mem _ hx)) hb hn
  rw [yy60, yy60]; omega
 | pass a d b o _ hk _ ih =>
  intro ha hb hn
  rw [yy28, in_two hk, Nat.zero_add] at hn
  have := ih ha (fun x hx => hb x (List.mem_cons_of_mem _ hx)) hn
  have e : outN (⟨1, (sz d : Int), []⟩ : CompV) = sz d := by rw [yy212 rfl]; rfl
  rw [yy60, yy60, e, yy145 hk, sz_two hk]; omega
 | both c a d b o n h1 h2 hmin _ ih =>
  intro ha hb hn
  have k := yy404 (a := a) (b := b) h1 h2 hmin ha hb
  have hia := k.ia; have hib := k.ib; have hoa := k.oa; have hob := k.ob
  have := ih k.wa k.wb (by omega)
  by_cases hd : d.kind = 1
  ·rw [if_pos hd, List.singleton_append, yy60]; omega
  ·rw [if_neg hd, List.nil_append]; omega
theorem yy650 {f : Bool} {a b o : List CompV} (ha : rCheck a = 0) (hb : rCheck b = 0) (he : rBase a = rBase b) (h : Ov f a b o) (hs : ∀ x ∈ o, Small1 x) (hl : o.length ≤ 8000) : Held1 (yy19 o) ∧ (∀ x ∈ o, Wh x) ∧ inS o = outS b := by
 have ka := ok_of ha
 have kb := ok_of hb
 have e1 := ka.base; have e2 := kb.base
 have c := h.wh ka.wh kb.wh (by omega)
 have i2 := yy742 h ka.wh kb.wh (by omega)
 have i1 := c.2; have i3 := ka.out1; have i4 := kb.out1
 exact ⟨yy600 c.1 hs hl (by omega) (by omega), c⟩
def plain (c : CompV) : CompV := if c.kind = 2 then ⟨2, 0, c.text⟩ else c
theorem nStep_plain (s : NS) (c : CompV) : nStep s (plain c) = nStep s c := by
 unfold plain
 by_cases h : c.kind = 2
 ·rw [if_pos h]
  unfold nStep
  rw [if_pos rfl, if_pos h]
 ·rw [if_neg h]
theorem norm_plain (l : List CompV) : yy19 (l.map plain) = yy19 l := by
 have : ∀ (l : List CompV) (s : NS), (l.map plain).foldl nStep s = l.foldl nStep s := by
  intro l
  induction l with
  | nil => intro s; rfl
  | cons c l ih => intro s; rw [List.map_cons, List.foldl_cons, List.foldl_cons, nStep_plain, ih]
 rw [yy19, yy19, nRun, nRun, this]
theorem yy226 (c : CompV) : (plain c).text = c.text := by unfold plain; split <;> rfl
theorem tlen_plain (l : List CompV) : tlen (l.map plain) = tlen l := by
 unfold tlen
 congr 1
 rw [List.flatMap_map]
 congr 1
 funext c
 exact yy226 c
theorem yy521 {c : CompV} (h : Wh c) (hs : sz c ≤ 4000) : Small1 c := by
 have := yy178 h (k := sz c) hs
 rwa [yy78 h] at this
theorem yy413 {c : CompV} {l : List CompV} {n : Nat} (hc : Wh c ∧ sz c ≤ 4000) (hl : ∀ x ∈ l, Wh x ∧ sz x ≤ 4000) (hn : n ≤ sz c) : ∀ x ∈ chop c l n, Wh x ∧ sz x ≤ 4000 := by
 unfold chop
 split
 ·exact hl
 ·intro x hx
  rcases List.mem_cons.1 hx with rfl | hx
  ·have := cut_wh hc.1 (n := n) (by omega)
   exact ⟨this.1, by have := hc.2; omega⟩
  ·exact hl x hx
end Go.Proofs.YtjpjdkdbgjipnaaGreatDoor
namespace Go.Proofs.YtjpjdkdbgjipnaaGreatDoor
open Go.RowKit Go.Deep
def cellN (v : Option Value) : Nat := match v with | some (.int _ x) => x.toNat | _ => 0
noncomputable def leftOf (a b : List CompV) (gx gy : Nat) (w : World) : Nat :=
 wt (rest a (cellN (w.cell? ⟨gx, 1, none⟩)) (cellN (w.cell? ⟨gx, 2, none⟩))) + wt (rest b (cellN (w.cell? ⟨gy, 1, none⟩)) (cellN (w.cell? ⟨gy, 2, none⟩)))
theorem WalkAt.says {B g : Nat} {l : List CompV} {i n : Nat} {w : World} (h : WalkAt B g l i n w) : cellN (w.cell? ⟨g, 1, none⟩) = i ∧ cellN (w.cell? ⟨g, 2, none⟩) = n := by
 obtain ⟨A, c, h1, _⟩ := h
 have c1 : w.cell? ⟨g, 1, none⟩ = some (.int .i64 (i : Int)) := (h1.cell (i := 1) (by omega)).trans rfl
 have c2 : w.cell? ⟨g, 2, none⟩ = some (.int .i64 (n : Int)) := (h1.cell (i := 2) (by omega)).trans rfl
 rw [c1, c2]
 exact ⟨Int.toNat_natCast i, Int.toNat_natCast n⟩
theorem WalkAt.base {B g base : Nat} {l : List CompV} {i n : Nat} {w w' : World} (h : WalkAt B g l i n w) (hb : Below base w w') (hg : g < base) : WalkAt B g l i n w' := by
 obtain ⟨A, c, h1, h2, h3, h4⟩ := h
 refine ⟨A, c, h1.of_block (hb.block g hg), ?_, h3, h4⟩
 rcases h2 with h2 | ⟨b', off', e, hlt, hc⟩
 ·exact .inl h2
 ·by_cases h0 : 0 < l.length
  ·obtain ⟨b, off, hA, hbB⟩ := h3 h0
   have hbb : b' = b := by rw [hA] at e; cases e; rfl
   exact .inr ⟨b', off', e, Nat.lt_of_lt_of_le hlt hb.size, fun j v hj => (cell_of_block (hb.block b' (by omega)) _).trans (hc j v hj)⟩
  ·have : l = [] := List.eq_nil_of_length_eq_zero (by omega)
   subst this
   exact .inl rfl
structure St (B gx gy base : Nat) (a b : List CompV) (w0 : World) (i n j m : Nat) (o : List CompV) (A : Option Addr) (c : Nat) (w : World) : Prop where
 wx : WalkAt B gx a i n w
 wy : WalkAt B gy b j m w
 own : w.ownsRow base 60 3 (.slice A o.length c) o.length (o.flatMap yy2)
 low : Below B w0 w
 bx : gx < base
 by_ : gy < base
 ne : gx ≠ gy
 size : base ≤ w.heap.size
namespace St
variable {B gx gy base : Nat} {a b : List CompV} {w0 w w' : World} {i n j m : Nat} {o : List CompV} {A : Option Addr} {c : Nat}
theorem below (s : St B gx gy base a b w0 i n j m o A c w) (hb : Below w.heap.size w w') : St B gx gy base a b w0 i n j m o A c w' :=
 ⟨s.wx.below hb, s.wy.below hb, own_below s.own hb, s.low.trans (hb.mono (by have := s.wx.ge; have := s.bx; have := s.size; omega)), s.bx, s.by_, s.ne, Nat.le_trans s.size hb.size⟩
theorem left (s : St B gx gy base a b w0 i n j m o A c w) : leftOf a b gx gy w = wt (rest a i n) + wt (rest b j m) := by
 rw [leftOf, s.wx.says.1, s.wx.says.2, s.wy.says.1, s.wy.says.2]
theorem takeX (s : St B gx gy base a b w0 i n j m o A c w) {i' n' : Nat} (hx : WalkAt B gx a i' n' w') (ho : Only gx w w') : St B gx gy base a b w0 i' n' j m o A c w' := by
 have h1 := s.wx.ge; have h2 := s.bx; have h3 := s.size
 exact ⟨hx, s.wy.keep ho s.ne h1, yy216 s.own ho s.bx, s.low.trans ⟨ho.os, ho.tape, ho.output, ho.size, fun k hk => ho.block k (by omega) (by omega)⟩, s.bx, s.by_, s.ne, Nat.le_trans s.size ho.size⟩
theorem takeY (s : St B gx gy base a b w0 i n j m o A c w) {j' m' : Nat} (hy : WalkAt B gy b j' m' w') (ho : Only gy w w') : St B gx gy base a b w0 i n j' m' o A c w' := by
 have h1 := s.wy.ge; have h2 := s.by_; have h3 := s.size
 exact ⟨s.wx.keep ho (fun e => s.ne e.symm) h1, hy, yy216 s.own ho s.by_, s.low.trans ⟨ho.os, ho.tape, ho.output, ho.size, fun k hk => ho.block k (by omega) (by omega)⟩, s.bx, s.by_, s.ne, Nat.le_trans s.size ho.size⟩
theorem push (s : St B gx gy base a b w0 i n j m o A c w) {o' : List CompV} {A' : Option Addr} {c' : Nat} (h : w'.ownsRow base 60 3 (.slice A' o'.length c') o'.length (o'.flatMap yy2)) (hb : Below base w w') :
  St B gx gy base a b w0 i n j m o' A' c' w' := by
 have h1 := s.wy.ge; have h2 := s.by_
 exact ⟨s.wx.base hb s.bx, s.wy.base hb s.by_, h, s.low.trans (hb.mono (by omega)), s.bx, s.by_, s.ne, Nat.le_trans s.size hb.size⟩
end St
end Go.Proofs.YtjpjdkdbgjipnaaGreatDoor
