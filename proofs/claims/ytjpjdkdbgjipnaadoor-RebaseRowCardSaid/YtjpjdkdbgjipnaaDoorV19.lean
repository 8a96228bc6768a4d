/- The landed walk of xform over two edits: goto to the next part of either. Conditions: no part of more than 4000 code points, no more than 10^6 parts. -/
import Derived.Test.YtjpjdkdbgjipnaaDoorV23
import Derived.Test.YtjpjdkdbgjipnaaDoorV28
import Derived.Test.YtjpjdkdbgjipnaaDoorV22
import Derived.Test.YtjpjdkdbgjipnaaDoorV43
import Derived.WalkMore
namespace Go.Proofs.YtjpjdkdbgjipnaaDoor
open Go.RowKit Go.Deep
theorem yy738 {f : Bool} {c : CompV} {a b q : List CompV} (h : Ov f (c :: a) b q) (hk : c.kind = 2) (hf : f = true ∨ kd b ≠ 2) : ∃ r, q = c :: r ∧ Ov f a b r := by
 cases h with
 | puts _ _ _ o _ _ g => exact ⟨o, rfl, g⟩
 | pass _ d _ _ g g2 _ =>
  exfalso
  rcases hf with hf | hf
  ·exact g ⟨hk, hf⟩
  ·exact hf g2
 | both _ _ _ _ _ _ g => exact absurd hk g
theorem yy739 {f : Bool} {d : CompV} {a b q : List CompV} (h : Ov f a (d :: b) q) (hn : ¬ (kd a = 2 ∧ f = true)) (hd : d.kind = 2) : ∃ r, q = ⟨1, (sz d : Int), []⟩ :: r ∧ Ov f a b r := by
 cases h with
 | puts c _ _ o g gf _ =>
  exfalso
  rcases gf with gf | gf
  ·exact hn ⟨g, gf⟩
  ·exact gf hd
 | pass _ _ _ o _ _ g => exact ⟨o, rfl, g⟩
 | both _ _ _ _ _ _ _ g => exact absurd hd g
theorem ov_end {f : Bool} {b q : List CompV} (h : Ov f [] b q) (hk : kd b ≠ 2) : b = [] ∧ q = [] := by
 cases h with
 | nil => exact ⟨rfl, rfl⟩
 | pass _ d _ _ _ g _ => exact absurd g hk
theorem yy632 {f : Bool} {c : CompV} {a b q : List CompV} (h : Ov f (c :: a) b q) (hc : c.kind ≠ 2) (hk : kd b ≠ 2) :
  ∃ d b' r, b = d :: b' ∧ d.kind ≠ 2 ∧ q = (if d.kind = 1 then [piece c (min (sz c) (sz d))] else []) ++ r ∧ Ov f (chop c a (min (sz c) (sz d))) (chop d b' (min (sz c) (sz d))) r := by
 cases h with
 | puts _ _ _ o g => exact absurd g hc
 | pass _ d _ _ _ g _ => exact absurd g hk
 | both _ _ d b' o n _ g hn h => subst hn; exact ⟨d, b', o, rfl, g, rfl, h⟩
theorem yy506 {f : Bool} {a b o : List CompV} (h : Ov f a b o) : (∀ x ∈ a, Wh x ∧ sz x ≤ 4000) → (∀ x ∈ b, Wh x ∧ sz x ≤ 4000) → (∀ x ∈ o, Wh x ∧ sz x ≤ 4000) ∧ o.length ≤ a.length + b.length := by
 induction h with
 | nil => exact fun _ _ => ⟨fun x hx => (by cases hx), Nat.zero_le _⟩
 | puts c a b o hk _ _ ih =>
  intro ha hb
  obtain ⟨h1, h2⟩ := ih (fun x hx => ha x (List.mem_cons_of_mem _ hx)) hb
  refine ⟨fun x hx => ?_, by simp; omega⟩
  rcases List.mem_cons.1 hx with rfl | hx
  ·exact ha x (by simp)
  ·exact h1 x hx
 | pass a d b o _ hk _ ih =>
  intro ha hb
  obtain ⟨h1, h2⟩ := ih ha (fun x hx => hb x (List.mem_cons_of_mem _ hx))
  have hd := hb d (by simp)
  refine ⟨fun x hx => ?_, by simp; omega⟩
  rcases List.mem_cons.1 hx with rfl | hx
  ·refine ⟨yy624 hd.1.sz, ?_⟩
   rw [sz_not (by simp)]
   simp only [Int.toNat_natCast]
   exact hd.2
  ·exact h1 x hx
 | both c a d b o n h3 h2 hmin _ ih =>
  intro ha hb
  have hc := ha c (by simp)
  have hd := hb d (by simp)
  have hc0 := hc.1.sz; have hd0 := hd.1.sz
  obtain ⟨i1, i2⟩ := ih (yy388 hc (fun x hx => ha x (List.mem_cons_of_mem _ hx)) (by omega)) (yy388 hd (fun x hx => hb x (List.mem_cons_of_mem _ hx)) (by omega))
  have hlen : (chop c a n).length + (chop d b n).length ≤ a.length + b.length + 1 := by
   unfold chop
   by_cases e1 : n = sz c
   ·rw [if_pos e1]
    split <;> simp <;> omega
   ·rw [if_neg e1, if_pos (by omega)]
    simp; omega
  have pc := yy238 hc.1 (n := n) (by omega) (by omega)
  refine ⟨fun x hx => ?_, ?_⟩
  ·rcases List.mem_append.1 hx with hx | hx
   ·split at hx
    ·rw [List.mem_singleton.1 hx]; exact ⟨pc.1, by have := pc.2; omega⟩
    ·cases hx
   ·exact i1 x hx
  ·rw [List.length_append, List.length_cons, List.length_cons]
   have : (if d.kind = 1 then [piece c n] else []).length ≤ 1 := by
    split <;> simp
   omega
theorem yy203 {ops : Array Oper} {rest : List Oper} {o : Oper} {a : Act} {w : World} {Q : Exit → Act → World → Prop} (hgd : o.guard = none) (s x : Operand)
  (ho : o.op = .call { callee := .builtin .append, args := #[s, x], argTypes := #[40, 40] })
  (base : Nat) (v : Value) (out l : List CompV) (hs : a.eval s = v) (hown : w.ownsRow base 51 3 v out.length (out.flatMap yy2)) (hsz : base ≤ w.heap.size)
  (A : Option Addr) (c : Nat) (hx : a.eval x = .slice A l.length c) (hA : yy6 w A l) (hnil : A = none → l = [] ∧ c = 0) (hlen : out.length + l.length ≤ 1099511627776)
  (h : ∀ out' A' c' w', out' = out ++ l → w'.ownsRow base 51 3 (.slice A' out'.length c') out'.length (out'.flatMap yy2) → Below base w w' → wpList Tryd.prog ops Q rest (a.put o.dst (.slice A' out'.length c')) w') :
  wpList Tryd.prog ops Q (o :: rest) a w :=
 wpList_plain hgd fun _ hK => yy661 s x ho base v out l hs hown hsz A c hx hA hnil hlen fun out' A' c' w' h1 h2 h3 => hK _ _ (h out' A' c' w' h1 h2 h3)
def XFr (a : Act) (sa sb : Value) (f : Bool) (so : Value) (g : Nat) : Prop := a.defers = [] ∧ a.tmps.size = 82 ∧ a.tmps[0]? = some sa ∧ a.tmps[1]? = some sb ∧ a.tmps[2]? = some (.bool f) ∧ a.tmps[7]? = some so ∧ a.tmps[8]? = some (.pointer (some ⟨g, 0, none⟩)) ∧ a.tmps[9]? = some (.pointer (some ⟨g + 1, 0, none⟩))
theorem XFr.out {a : Act} {sa sb so : Value} {f : Bool} {g : Nat} (h : XFr a sa sb f so g) : ∃ F : Nat → Value, a = { tmps := #[sa, sb, .bool f, F 3, F 4, F 5, F 6, so, .pointer (some ⟨g, 0, none⟩), .pointer (some ⟨g + 1, 0, none⟩), F 10, F 11, F 12, F 13, F 14, F 15, F 16, F 17, F 18, F 19, F 20, F 21, F 22, F 23, F 24, F 25, F 26, F 27, F 28, F 29, F 30, F 31, F 32, F 33, F 34, F 35, F 36, F 37, F 38, F 39, F 40, F 41, F 42, F 43, F 44, F 45, F 46, F 47, F 48, F 49, F 50, F 51, F 52, F 53, F 54, F 55, F 56, F 57, F 58, F 59, F 60, F 61, F 62, F 63, F 64, F 65, F 66, F 67, F 68, F 69, F 70, F 71, F 72, F 73, F 74, F 75, F 76, F 77, F 78, F 79, F 80, F 81], defers := [] } := by
 obtain ⟨t, d⟩ := a
 obtain ⟨rfl, hs, h0, h1, h2, h7, h8, h9⟩ := h
 simp only at hs h0 h1 h2 h7 h8 h9
 refine ⟨fun n => (t[n]?).getD undef, ?_⟩
 have e : t = ((List.range 82).map fun i => (t[i]?).getD undef).toArray := by
  apply Array.ext
  ·simp [hs]
  ·intro i h1 h2
   simp [h1]
 have e2 : ((List.range 82).map fun i => (t[i]?).getD undef).toArray = #[(t[0]?).getD undef, (t[1]?).getD undef, (t[2]?).getD undef, (t[3]?).getD undef, (t[4]?).getD undef, (t[5]?).getD undef, (t[6]?).getD undef, (t[7]?).getD undef, (t[8]?).getD undef, (t[9]?).getD undef, (t[10]?).getD undef, (t[11]?).getD undef, (t[12]?).getD undef, (t[13]?).getD undef, (t[14]?).getD undef, (t[15]?).getD undef, (t[16]?).getD undef, (t[17]?).getD undef, (t[18]?).getD undef, (t[19]?).getD undef, (t[20]?).getD undef, (t[21]?).getD undef, (t[22]?).getD undef, (t[23]?).getD undef, (t[24]?).getD undef, (t[25]?).getD undef, (t[26]?).getD undef, (t[27]?).getD undef, (t[28]?).getD undef, (t[29]?).getD undef, (t[30]?).getD undef, (t[31]?).getD undef, (t[32]?).getD undef, (t[33]?).getD undef, (t[34]?).getD undef, (t[35]?).getD undef, (t[36]?).getD undef, (t[37]?).getD undef, (t[38]?).getD undef, (t[39]?).getD undef, (t[40]?).getD undef, (t[41]?).getD undef, (t[42]?).getD undef, (t[43]?).getD undef, (t[44]?).getD undef, (t[45]?).getD undef, (t[46]?).getD undef, (t[47]?).getD undef, (t[48]?).getD undef, (t[49]?).getD undef, (t[50]?).getD undef, (t[51]?).getD undef, (t[52]?).getD undef, (t[53]?).getD undef, (t[54]?).getD undef, (t[55]?).getD undef, (t[56]?).getD undef, (t[57]?).getD undef, (t[58]?).getD undef, (t[59]?).getD undef, (t[60]?).getD undef, (t[61]?).getD undef, (t[62]?).getD undef, (t[63]?).getD undef, (t[64]?).getD undef, (t[65]?).getD undef, (t[66]?).getD undef, (t[67]?).getD undef, (t[68]?).getD undef, (t[69]?).getD undef, (t[70]?).getD undef, (t[71]?).getD undef, (t[72]?).getD undef, (t[73]?).getD undef, (t[74]?).getD undef, (t[75]?).getD undef, (t[76]?).getD undef, (t[77]?).getD undef, (t[78]?).getD undef, (t[79]?).getD undef, (t[80]?).getD undef, (t[81]?).getD undef] := rfl
 simp only [h0, h1, h2, h7, h8, h9, Option.getD_some] at e2
 rw [← e2, ← e]
attribute [irreducible] XFr
theorem XFr.mk {t : Array Value} {sa sb so : Value} {f : Bool} {g : Nat} (h : t.size = 82 ∧ t[0]? = some sa ∧ t[1]? = some sb ∧ t[2]? = some (.bool f) ∧ t[7]? = some so ∧ t[8]? = some (.pointer (some ⟨g, 0, none⟩)) ∧ t[9]? = some (.pointer (some ⟨g + 1, 0, none⟩))) : XFr { tmps := t, defers := [] } sa sb f so g := by
 unfold XFr
 exact ⟨rfl, h⟩
def PIs (c : CompV) (xk xz : Int) (xt : List Nat) : Prop := Wh c ∧ sz c ≤ 4000 ∧ xk = c.kind ∧ xz = (sz c : Int) ∧ xt = c.text
def XS (pa la : List CompV) (xk xz : Int) (xt : List Nat) : Prop := (pa = [] ∧ la = [] ∧ xk = 0 ∧ xz = 0) ∨ ∃ c, pa = [c] ∧ PIs c xk xz xt
def YS (pb : List CompV) (yk yn : Int) (yt : List Nat) : Prop := (pb = [] ∧ yn = 0) ∨ ∃ d, pb = [d] ∧ PIs d yk yn yt
theorem XS.kd {pa la : List CompV} {xk xz : Int} {xt : List Nat} (h : XS pa la xk xz xt) : kd (pa ++ la) = xk := by
 rcases h with ⟨rfl, rfl, rfl, _⟩ | ⟨c, rfl, hc⟩
 ·rfl
 ·exact hc.2.2.1.symm
theorem yy633 {l : List CompV} (h : ∀ c ∈ l, Wh c ∧ sz c ≤ 4000) : XS (l.take 1) l.tail (partOf l).kind (partOf l).n (partOf l).text := by
 cases l with
 | nil => exact .inl ⟨rfl, rfl, rfl, rfl⟩
 | cons c l => exact .inr ⟨c, rfl, (h c (by simp)).1, (h c (by simp)).2, rfl, rfl, rfl⟩
theorem XS.ys {pa la : List CompV} {xk xz : Int} {xt : List Nat} (h : XS pa la xk xz xt) : YS pa xk xz xt := by
 rcases h with ⟨h1, _, _, h2⟩ | h
 ·exact .inl ⟨h1, h2⟩
 ·exact .inr h
theorem yy389 (l : List CompV) : l.take 1 ++ l.tail = l := by cases l <;> rfl
structure XWk (W : World) (f : Bool) (o la lb out pa pb : List CompV) (sa sb so : Value) (xk xz : Int) (xt : List Nat) (yk yn : Int) (yt : List Nat) (w : World) : Prop where
 a : ∃ A c, sa = .slice A la.length c ∧ CompsC W A c la
 b : ∃ A c, sb = .slice A lb.length c ∧ CompsC W A c lb
 x : w.rowIs W.heap.size 51 3 (yy25 xk xz xt)
 y : w.rowIs (W.heap.size + 1) 51 3 (yy25 yk yn yt)
 own : w.ownsRow (W.heap.size + 2) 51 3 so out.length (out.flatMap yy2)
 up : W.heap.size + 2 ≤ w.heap.size
 bel : Below W.heap.size W w
 fa : ∀ c ∈ la, Wh c ∧ sz c ≤ 4000
 fb : ∀ c ∈ lb, Wh c ∧ sz c ≤ 4000
 la_ : la.length ≤ 1000000
 lb_ : lb.length ≤ 1000000
 rest : ∃ r, Ov f (pa ++ la) (pb ++ lb) r ∧ o = out.map plain ++ r
 ol : o.length ≤ 1000000
 fit : ∀ y ∈ out, 0 ≤ y.n ∧ y.n ≤ 4000
namespace XWk
variable {W w w' : World} {f : Bool} {o la lb out pa pb : List CompV} {sa sb so : Value} {xk xz yk yn : Int} {xt yt : List Nat}
theorem len (h : XWk W f o la lb out pa pb sa sb so xk xz xt yk yn yt w) : out.length ≤ 1000000 := by
 obtain ⟨r, _, e⟩ := h.rest
 have := congrArg List.length e
 rw [List.length_append, List.length_map] at this
 have := h.ol
 omega
theorem below (h : XWk W f o la lb out pa pb sa sb so xk xz xt yk yn yt w) (hb : Below w.heap.size w w') : XWk W f o la lb out pa pb sa sb so xk xz xt yk yn yt w' :=
 ⟨h.a, h.b, h.x.of_block (hb.block _ h.x.lt), h.y.of_block (hb.block _ h.y.lt), own_below h.own hb, Nat.le_trans h.up hb.size, h.bel.trans (hb.mono h.bel.size), h.fa, h.fb, h.la_, h.lb_, h.rest, h.ol, h.fit⟩
theorem loadX {A' : Option Addr} {c' : Nat} (h : XWk W f o la lb out [] pb sa sb so xk xz xt yk yn yt w) (hA : CompsC W A' c' la.tail) :
  XWk W f o la.tail lb out (la.take 1) pb (.slice A' la.tail.length c') sb so (partOf la).kind (partOf la).n (partOf la).text yk yn yt (((w.setCell ⟨W.heap.size, 0, none⟩ (.int .i64 (partOf la).kind)).setCell ⟨W.heap.size, 1, none⟩ (.int .i64 (partOf la).n)).setCell ⟨W.heap.size, 2, none⟩ (.string (bstr (partOf la).text))) := by
 have hm : Mid W.heap.size (W.heap.size + 2) w (((w.setCell ⟨W.heap.size, 0, none⟩ (.int .i64 (partOf la).kind)).setCell ⟨W.heap.size, 1, none⟩ (.int .i64 (partOf la).n)).setCell ⟨W.heap.size, 2, none⟩ (.string (bstr (partOf la).text))) :=
  (((Mid.refl _ _ w).set _ _ _ (Nat.le_refl _) (by omega)).set _ _ _ (Nat.le_refl _) (by omega)).set _ _ _ (Nat.le_refl _) (by omega)
 exact ⟨⟨A', c', rfl, hA⟩, h.b, yy316 h.x _ _ _, ((h.y.setOther (by show W.heap.size + 1 ≠ W.heap.size; omega) _).setOther (by show W.heap.size + 1 ≠ W.heap.size; omega) _).setOther (by show W.heap.size + 1 ≠ W.heap.size; omega) _, hm.own h.own (Nat.le_refl _),
  Nat.le_trans h.up hm.size, hm.below h.bel (Nat.le_refl _) (by have := h.up; omega), fun x hx => h.fa x (List.mem_of_mem_tail hx), h.fb, by have := h.la_; rw [List.length_tail]; omega, h.lb_, by rw [yy389]; exact h.rest, h.ol, h.fit⟩
theorem loadY {A' : Option Addr} {c' : Nat} (h : XWk W f o la lb out pa [] sa sb so xk xz xt yk yn yt w) (hA : CompsC W A' c' lb.tail) :
  XWk W f o la lb.tail out pa (lb.take 1) sa (.slice A' lb.tail.length c') so xk xz xt (partOf lb).kind (partOf lb).n (partOf lb).text (((w.setCell ⟨W.heap.size + 1, 0, none⟩ (.int .i64 (partOf lb).kind)).setCell ⟨W.heap.size + 1, 1, none⟩ (.int .i64 (partOf lb).n)).setCell ⟨W.heap.size + 1, 2, none⟩ (.string (bstr (partOf lb).text))) := by
 have hm : Mid W.heap.size (W.heap.size + 2) w (((w.setCell ⟨W.heap.size + 1, 0, none⟩ (.int .i64 (partOf lb).kind)).setCell ⟨W.heap.size + 1, 1, none⟩ (.int .i64 (partOf lb).n)).setCell ⟨W.heap.size + 1, 2, none⟩ (.string (bstr (partOf lb).text))) :=
  (((Mid.refl _ _ w).set _ _ _ (by omega) (by omega)).set _ _ _ (by omega) (by omega)).set _ _ _ (by omega) (by omega)
 exact ⟨h.a, ⟨A', c', rfl, hA⟩, ((h.x.setOther (by show W.heap.size ≠ W.heap.size + 1; omega) _).setOther (by show W.heap.size ≠ W.heap.size + 1; omega) _).setOther (by show W.heap.size ≠ W.heap.size + 1; omega) _, yy316 h.y _ _ _, hm.own h.own (Nat.le_refl _),
  Nat.le_trans h.up hm.size, hm.below h.bel (Nat.le_refl _) (by have := h.up; omega), h.fa, fun x hx => h.fb x (List.mem_of_mem_tail hx), h.la_, by have := h.lb_; rw [List.length_tail]; omega, by rw [yy389]; exact h.rest, h.ol, h.fit⟩
theorem pushed {cr : CompV} {pa' pb' out' : List CompV} {A' : Option Addr} {c' : Nat} (h : XWk W f o la lb out pa pb sa sb so xk xz xt yk yn yt w) (hout : out' = out ++ [cr]) (hown : w'.ownsRow (W.heap.size + 2) 51 3 (.slice A' out'.length c') out'.length (out'.flatMap yy2)) (hb : Below (W.heap.size + 2) w w')
  (hcr : 0 ≤ cr.n ∧ cr.n ≤ 4000) (hr : ∀ r, Ov f (pa ++ la) (pb ++ lb) r → ∃ r', r = plain cr :: r' ∧ Ov f (pa' ++ la) (pb' ++ lb) r') : XWk W f o la lb out' pa' pb' sa sb (.slice A' out'.length c') xk xz xt yk yn yt w' := by
 refine ⟨h.a, h.b, h.x.of_block (hb.block _ (by omega)), h.y.of_block (hb.block _ (by omega)), hown, Nat.le_trans h.up hb.size, h.bel.trans (hb.mono (by omega)), h.fa, h.fb, h.la_, h.lb_, ?_, h.ol, fun y hy => by
  rw [hout] at hy
  rcases List.mem_append.1 hy with hy | hy
  ·exact h.fit y hy
  ·rw [List.mem_singleton.1 hy]; exact hcr⟩
 obtain ⟨r, h1, h2⟩ := h.rest
 obtain ⟨r', rfl, h3⟩ := hr r h1
 exact ⟨r', h3, by rw [h2, hout, List.map_append, List.append_assoc]; rfl⟩
end XWk
theorem ov_cut {f : Bool} {c d : CompV} {a b q : List CompV} {n : Nat} (h : Ov f (c :: a) (d :: b) q) (hc : c.kind ≠ 2) (hd : d.kind ≠ 2) (hn : min (sz c) (sz d) = n) :
  ∃ r, q = (if d.kind = 1 then [piece c n] else []) ++ r ∧ Ov f (chop c a n) (chop d b n) r := by
 obtain ⟨d', b', r, e, _, h1, h2⟩ := yy632 h hc hd
 injection e with e1 e2
 subst e1 e2 hn
 exact ⟨r, h1, h2⟩
theorem PIs.cut {c : CompV} {xk xz : Int} {xt : List Nat} {n : Nat} (h : PIs c xk xz xt) (hc : c.kind ≠ 2) (hn : n < sz c) : PIs (cut c n) xk ((sz c - n : Nat) : Int) xt := by
 have hw := cut_wh h.1 hn
 refine ⟨hw.1, by rw [hw.2]; have := h.2.1; omega, by rw [yy469]; exact h.2.2.1, by rw [hw.2], ?_⟩
 rw [Go.Proofs.YtjpjdkdbgjipnaaDoor.cut, if_neg hc, h.2.2.2.2]
 rcases h.1.cases with g | g | g
 ·exact g.2.2
 ·exact g.2.2
 ·exact absurd g.1 hc
theorem ys_cut {d : CompV} {b : List CompV} {yk yn : Int} {yt : List Nat} {n : Nat} (h : PIs d yk yn yt) (hd : d.kind ≠ 2) (hn : n ≤ sz d) : ∃ pb, chop d b n = pb ++ b ∧ YS pb yk ((sz d - n : Nat) : Int) yt ∧ pb.length ≤ 1 := by
 by_cases e : n = sz d
 ·exact ⟨[], if_pos e, .inl ⟨rfl, by omega⟩, by simp⟩
 ·exact ⟨[cut d n], if_neg e, .inr ⟨_, rfl, h.cut hd (by omega)⟩, by simp⟩
theorem PIs.piece {c : CompV} {xk xz : Int} {xt : List Nat} (h : PIs c xk xz xt) (hc : c.kind ≠ 2) (n : Nat) : plain ⟨xk, n, []⟩ = piece c n := by
 rw [plain, if_neg (by simp only; rw [h.2.2.1]; exact hc), Go.Proofs.YtjpjdkdbgjipnaaDoor.piece, if_neg hc, h.2.2.1]
theorem PIs.text {c : CompV} {xk xz : Int} {xt : List Nat} (h : PIs c xk xz xt) (hc : c.kind ≠ 2) : xt = [] := by
 rw [h.2.2.2.2]
 rcases h.1.cases with g | g | g
 ·exact g.2.2
 ·exact g.2.2
 ·exact absurd g.1 hc
theorem PIs.two {c : CompV} {xk xz : Int} {xt : List Nat} (h : PIs c xk xz xt) (hc : xk = 2) : plain ⟨2, xz, xt⟩ = c := by
 rw [plain, if_pos rfl, h.2.2.2.2]
 obtain ⟨a, b, t⟩ := c
 have hk : a = 2 := by rw [← hc]; exact h.2.2.1.symm
 rcases h.1.cases with g | g | g
 ·simp only at g; omega
 ·simp only at g; omega
 ·simp only at g ⊢; rw [g.1, g.2.1]
def XJ (W : World) (f : Bool) (o : List CompV) : Nat → Nat → Act → World → Prop
 | 0, k, a, w => ∃ la lb out pb sa sb so xk xz xt yk yn yt, XFr a sa sb f so W.heap.size ∧ XWk W f o la lb out [] pb sa sb so xk xz xt yk yn yt w ∧ YS pb yk yn yt ∧ k = 3 * (3 * (la.length + lb.length) + pb.length) + 2
 | 1, k, a, w => ∃ la lb out pa pb sa sb so xk xz xt yk yn yt, XFr a sa sb f so W.heap.size ∧ XWk W f o la lb out pa pb sa sb so xk xz xt yk yn yt w ∧ XS pa la xk xz xt ∧ XS pb lb yk yn yt ∧ k = 3 * (3 * (la.length + lb.length) + (pa.length + pb.length))
 | 2, k, a, w => ∃ la lb out pa sa sb so xk xz xt yk yn yt, XFr a sa sb f so W.heap.size ∧ XWk W f o la lb out pa [] sa sb so xk xz xt yk yn yt w ∧ XS pa la xk xz xt ∧ k = 3 * (3 * (la.length + lb.length) + pa.length) + 1
 | _, _, _, _ => False
def XfEnd (o : List CompV) (W : World) (e : Ending) (w' : World) : Prop := ∃ (A : Option Addr) (c : Nat) (out : List CompV), e = .returned (.slice A out.length c) ∧ w'.ownsRow W.heap.size 51 3 (.slice A out.length c) out.length (out.flatMap yy2) ∧ out.map plain = o ∧ (∀ y ∈ out, 0 ≤ y.n ∧ y.n ≤ 4000) ∧ Below W.heap.size W w'
set_option maxHeartbeats 4000000 in
set_option maxRecDepth 100000 in
theorem yy507 (f : Bool) (A : Option Addr) (ca : Nat) (a : List CompV) (B : Option Addr) (cb : Nat) (b o : List CompV) (w : World) (hA : CompsC w A ca a) (hB : CompsC w B cb b) (hfa : ∀ c ∈ a, Wh c ∧ sz c ≤ 4000) (hfb : ∀ c ∈ b, Wh c ∧ sz c ≤ 4000) (hab : a.length + b.length ≤ 1000000) (ho : Ov f a b o) :
  Calls Tryd.prog 82 #[.slice A a.length ca, .slice B b.length cb, .bool f] w (XfEnd o w) := by
 have HST : ∀ (w1 : World) (h : w1 = (w.alloc (Obj.cells #[.int .i64 0, .int .i64 0, .string { data := #[] }] 51)).alloc (Obj.cells #[.int .i64 0, .int .i64 0, .string { data := #[] }] 51)),
   XWk w f o a b [] [] [] (.slice A a.length ca) (.slice B b.length cb) (.slice none 0 0) 0 0 [] 0 0 [] w1 := by
  rintro w1 rfl
  have h2 := cm_new (w.alloc (Obj.cells #[.int .i64 0, .int .i64 0, .string (bstr [])] 51)) 0 0 []
  rw [show (w.alloc (Obj.cells #[.int .i64 0, .int .i64 0, .string (bstr [])] 51)).heap.size = w.heap.size + 1 by simp] at h2
  exact ⟨⟨A, ca, rfl, hA⟩, ⟨B, cb, rfl, hB⟩, (cm_new w 0 0 []).alloc _, h2, by simpa using World.ownsRow_nil _ _ _ _, by simp, ((Below.refl _ _).alloc (Nat.le_refl _) _).alloc (by simp) _, hfa, hfb, by omega, by omega, ⟨o, ho, rfl⟩, by have := (yy506 ho hfa hfb).2; omega, fun y hy => by cases hy⟩
 have HSTART := xh HST
 clear HST hA hB hfa hfb hab ho
 obtain ⟨g, HG⟩ : ∃ x, Hid (w.heap.size = x) := ⟨_, rfl⟩
 go_enter Tryd.func82, Tryd.ntmps82
 go_wp2
 refine yy503 (XJ w f o) ?hJ rfl rfl rfl ?p1 ?p2 ?p0 ?first
 case hJ =>
  intro j k a w h
  match j, h with
  | 0, _ => omega
  | 1, _ => omega
  | 2, _ => omega
  | (n + 3), h => exact h.elim
 case first =>
  intro P0
  have P0' := xh P0; clear P0
  refine ⟨3 * (3 * (a.length + b.length) + 0) + 2, ?_⟩
  go_wp2
  go_step3
  rename_i K hK
  refine hK _ _ (yy100 (Nat.le_refl _) (P0'.out _ _ _ ⟨a, b, [], [], _, _, .slice none 0 0, 0, 0, [], 0, 0, [], XFr.mk ⟨rfl, rfl, rfl, rfl, rfl, rfl, rfl⟩, HSTART.out _ rfl, .inl ⟨rfl, rfl⟩, rfl⟩))
 case p1 =>
  rintro k act w1 ⟨la, lb, out, pa, pb, sa, sb, so, xk, xz, xt, yk, yn, yt, hf, hw, hx, hy, rfl⟩
  obtain ⟨A1, c1, rfl, hA1⟩ := hw.a
  obtain ⟨B1, d1, rfl, hB1⟩ := hw.b
  obtain ⟨A3, c3, rfl⟩ := own_slice hw.own
  obtain ⟨m, HM⟩ : ∃ m, Hid (m = 3 * (3 * (la.length + lb.length) + (pa.length + pb.length))) := ⟨_, rfl⟩
  rw [← HM.out]
  obtain ⟨F, rfl⟩ := hf.out
  clear hf
  rw [HG.out]
  have HW := xh hw
  have HX := xh hx
  have HY := xh hy
  obtain ⟨x0, x1, x2⟩ := cm_row hw.x
  obtain ⟨y0, y1, y2⟩ := cm_row hw.y
  rw [HG.out] at x0 x1 x2 y0 y1 y2
  clear hw hA1 hB1
  by_cases hp : xk = 2 ∧ (f = true ∨ yk ≠ 2)
  ·obtain ⟨hk, hfy⟩ := hp
   obtain ⟨c, rfl, hc⟩ : ∃ c, pa = [c] ∧ PIs c xk xz xt := by
    rcases hx with ⟨_, _, h, _⟩ | h
    ·omega
    ·exact h
   have HPUT : Hid (∀ r, Ov f ([c] ++ la) (pb ++ lb) r → ∃ r', r = plain ⟨2, xz, xt⟩ :: r' ∧ Ov f ([] ++ la) (pb ++ lb) r') := fun r hr => by
    rw [hc.two hk]
    exact yy738 hr (by rw [← hc.2.2.1]; exact hk) (by rw [hy.kd]; exact hfy)
   have HCR : Hid (0 ≤ xz ∧ xz ≤ 4000) := by show _ ∧ _; have := hc.2.1; have := hc.2.2.2.1; omega
   subst hk
   clear hx hy hc HX
   cases f with
   | true =>
    clear hfy y0 y1 y2
    go_wp2_with (at_builtin
                 refine yy66 rfl (.tmp 36) (.tmp 38) rfl (w.heap.size + 2) (.slice A3 out.length c3) out ⟨2, xz, xt⟩ rfl HW.out.own HW.out.up rfl (by have := HW.out.len; omega) ?_
                 intro out' A5 c5 w5 hout hown hbel
                 have HWP := xh (HW.out.pushed (pa' := []) (pb' := pb) hout hown hbel HCR.out HPUT.out)
                 clear hout hown hbel)
    go_step3
    first | rw [yy1] | rw [yy7, yy1] | rw [yy9, yy7, yy1] | rw [yy9, yy1]
    exact ⟨_, ⟨la, lb, out', pb, _, _, _, _, _, _, _, _, _, HG.out ▸ XFr.mk ⟨rfl, rfl, rfl, rfl, rfl, rfl, rfl⟩, HWP.out, HY.out.ys, rfl⟩, by have := HM.out; simp only [List.length_cons, List.length_nil] at this; omega⟩
   | false =>
    have hyk : yk ≠ 2 := by rcases hfy with h | h; cases h; exact h
    have r1 : (yk != 2) = true := bne_iff_ne.2 hyk
    have r2 : (yk == 2) = false := xn hyk
    clear hfy hyk y1 y2
    go_wp2_with (at_builtin
                 refine yy66 rfl (.tmp 36) (.tmp 38) rfl (w.heap.size + 2) (.slice A3 out.length c3) out ⟨2, xz, xt⟩ rfl HW.out.own HW.out.up rfl (by have := HW.out.len; omega) ?_
                 intro out' A5 c5 w5 hout hown hbel
                 have HWP := xh (HW.out.pushed (pa' := []) (pb' := pb) hout hown hbel HCR.out HPUT.out)
                 clear hout hown hbel)
    go_step3
    first | rw [yy1] | rw [yy7, yy1] | rw [yy9, yy7, yy1] | rw [yy9, yy1]
    exact ⟨_, ⟨la, lb, out', pb, _, _, _, _, _, _, _, _, _, HG.out ▸ XFr.mk ⟨rfl, rfl, rfl, rfl, rfl, rfl, rfl⟩, HWP.out, HY.out.ys, rfl⟩, by have := HM.out; simp only [List.length_cons, List.length_nil] at this; omega⟩
  ·by_cases hyk : yk = 2
   ·obtain ⟨d, rfl, hd⟩ : ∃ d, pb = [d] ∧ PIs d yk yn yt := by
     rcases hy with ⟨_, _, h, _⟩ | h
     ·omega
     ·exact h
    have HKL : Hid (keepL yn = [⟨1, yn, []⟩]) := if_neg (by have := hd.1.sz; have := hd.2.2.2.1; omega)
    have HPUT : Hid (∀ r, Ov f (pa ++ la) ([d] ++ lb) r → ∃ r', r = plain ⟨1, yn, []⟩ :: r' ∧ Ov f (pa ++ la) ([] ++ lb) r') := fun r hr => by
     rw [plain, if_neg (by simp), hd.2.2.2.1]
     exact yy739 hr (by
      rw [hx.kd]
      exact fun h => hp ⟨h.1, .inl h.2⟩) (by rw [← hd.2.2.1]; exact hyk)
    have HCR : Hid (0 ≤ yn ∧ yn ≤ 4000) := by show _ ∧ _; have := hd.2.1; have := hd.2.2.2.1; omega
    have GK := xh (fun w => yy426 yn w)
    rw [HKL.out] at GK
    simp only [List.length_singleton] at GK
    subst hyk
    clear hx hy hd HY
    by_cases hk : xk = 2
    ·have hf : f = false := by
      cases f
      ·rfl
      ·exact absurd ⟨hk, .inl rfl⟩ hp
     subst hf hk
     clear hp x1 x2
     go_wp2_with fail
     refine (GK.out _).mono ?_
     rintro e w2 ⟨A4, c4, rfl, hA4, hb2⟩
     have HA4 := xh hA4
     have HW2 := xh (HW.out.below hb2)
     have HNIL : Hid (A4 = none → ([⟨1, yn, []⟩] : List CompV) = [] ∧ c4 = 0) := fun h => by
      obtain ⟨_, _, e, _⟩ := hA4.1.form (by simp)
      rw [h] at e
      cases e
     clear hA4 hb2 x0 y0 y1 y2
     go_wp2_with (at_builtin
                  refine yy203 rfl (.tmp 44) (.tmp 47) rfl (w.heap.size + 2) (.slice A3 out.length c3) out [⟨1, yn, []⟩] rfl HW2.out.own HW2.out.up A4 c4 rfl HA4.out.1 HNIL.out (by have := HW.out.len; simp only [List.length_singleton]; omega) ?_
                  intro out' A5 c5 w5 hout hown hbel
                  have HWP := xh (HW2.out.pushed (pa' := pa) (pb' := []) hout hown hbel HCR.out HPUT.out)
                  clear hout hown hbel)
     go_step3
     first | rw [yy1] | rw [yy7, yy1] | rw [yy9, yy7, yy1] | rw [yy9, yy1]
     exact ⟨_, ⟨la, lb, out', pa, _, _, _, _, _, _, _, _, _, HG.out ▸ XFr.mk ⟨rfl, rfl, rfl, rfl, rfl, rfl, rfl⟩, HWP.out, HX.out, rfl⟩, by have := HM.out; simp only [List.length_cons, List.length_nil] at this; omega⟩
    ·have r1 : (xk == 2) = false := xn hk
     clear hp hk x1 x2
     go_wp2_with fail
     refine (GK.out _).mono ?_
     rintro e w2 ⟨A4, c4, rfl, hA4, hb2⟩
     have HA4 := xh hA4
     have HW2 := xh (HW.out.below hb2)
     have HNIL : Hid (A4 = none → ([⟨1, yn, []⟩] : List CompV) = [] ∧ c4 = 0) := fun h => by
      obtain ⟨_, _, e, _⟩ := hA4.1.form (by simp)
      rw [h] at e
      cases e
     clear hA4 hb2 x0 y0 y1 y2
     go_wp2_with (at_builtin
                  refine yy203 rfl (.tmp 44) (.tmp 47) rfl (w.heap.size + 2) (.slice A3 out.length c3) out [⟨1, yn, []⟩] rfl HW2.out.own HW2.out.up A4 c4 rfl HA4.out.1 HNIL.out (by have := HW.out.len; simp only [List.length_singleton]; omega) ?_
                  intro out' A5 c5 w5 hout hown hbel
                  have HWP := xh (HW2.out.pushed (pa' := pa) (pb' := []) hout hown hbel HCR.out HPUT.out)
                  clear hout hown hbel)
     go_step3
     first | rw [yy1] | rw [yy7, yy1] | rw [yy9, yy7, yy1] | rw [yy9, yy1]
     exact ⟨_, ⟨la, lb, out', pa, _, _, _, _, _, _, _, _, _, HG.out ▸ XFr.mk ⟨rfl, rfl, rfl, rfl, rfl, rfl, rfl⟩, HWP.out, HX.out, rfl⟩, by have := HM.out; simp only [List.length_cons, List.length_nil] at this; omega⟩
   ·have hxk : xk ≠ 2 := fun h => hp ⟨h, .inr hyk⟩
    have r1 : (xk == 2) = false := xn hxk
    have r2 : (yk == 2) = false := xn hyk
    clear hp
    rcases hx with ⟨rfl, rfl, rfl, rfl⟩ | ⟨c, rfl, hc⟩
    ·have HE : Hid (out.map plain = o) := by
      obtain ⟨r, h1, h2⟩ := HW.out.rest
      obtain ⟨_, rfl⟩ := ov_end h1 (by rw [hy.kd]; exact hyk)
      rw [List.append_nil] at h2
      exact h2.symm
     clear hy hyk hxk
     go_wp2
     rw [yy262]
     go_ret
     exact ⟨A3, c3, out, rfl, yy34 HW.out.own (by omega), HE.out, HW.out.fit, HW.out.bel⟩
    ·have hck : c.kind ≠ 2 := by rw [← hc.2.2.1]; exact hxk
     obtain ⟨d, rfl, hd⟩ : ∃ d, pb = [d] ∧ PIs d yk yn yt := by
      rcases hy with ⟨rfl, rfl, _, _⟩ | h
      ·exfalso
       obtain ⟨r, h1, _⟩ := HW.out.rest
       obtain ⟨_, _, _, h, _⟩ := yy632 h1 hck (by decide)
       cases h
      ·exact h
     have hdk : d.kind ≠ 2 := by rw [← hd.2.2.1]; exact hyk
     have hxt := hc.text hck
     have hyt := hd.text hdk
     subst hxt hyt
     have hxz := hc.2.2.2.1
     have hyn := hd.2.2.2.1
     subst hxz hyn
     have HC := xh hc
     have HD := xh hd
     have HCK := xh hck
     have HDK := xh hdk
     have HYK : Hid (d.kind = 1 ↔ yk = 1) := by show _ ↔ _; rw [← hd.2.2.1]
     have hc0 := hc.1.sz
     have hd0 := hd.1.sz
     have hc4 := hc.2.1
     have hd4 := hd.2.1
     clear hc hd hck hdk hy hyk hxk HX HY
     obtain ⟨z, HZ⟩ : ∃ z, Hid (sz c = z) := ⟨_, rfl⟩
     obtain ⟨v, HV⟩ : ∃ z, Hid (sz d = z) := ⟨_, rfl⟩
     rw [HZ.out] at x1 hc0 hc4 HW
     rw [HV.out] at y1 hd0 hd4 HW
     have zz : ((z : Int) == 0) = false := xn (by omega)
     by_cases hzv : z ≤ v
     ·have q0 : (z : Int) ≤ (v : Int) := by omega
      have e1 : IntKind.i64.wrap ((z : Int) - (z : Int)) = (0 : Int) := by rw [IntKind.wrap_i64]; omega
      have e2 : IntKind.i64.wrap ((v : Int) - (z : Int)) = ((v - z : Nat) : Int) := by rw [IntKind.wrap_i64]; omega
      by_cases hyk1 : yk = 1
      ·have s1 : (yk == 1) = true := beq_iff_eq.2 hyk1
       have HD1 := xh (HYK.out.2 hyk1)
       clear hyk1
       go_wp2_with (at_builtin
                    go_loud (refine yy66 rfl (.tmp 62) (.tmp 67) rfl (w.heap.size + 2) (.slice A3 out.length c3) out ⟨xk, (z : Int), []⟩ rfl HW.out.own HW.out.up rfl (by have := HW.out.len; omega) ?_)
                    intro out' A5 c5 w5 hout hown hbel
                    clear x0 x1 x2 y0 y1 y2
                    have hrx : w5.rowIs w.heap.size 51 3 (yy25 xk (z : Int) []) := HW.out.x.of_block (hbel.block _ (by omega))
                    have hry : w5.rowIs (w.heap.size + 1) 51 3 (yy25 yk (v : Int) []) := HW.out.y.of_block (hbel.block _ (by omega))
                    have x1 := (cm_row hrx).2.1
                    have xf := hrx.frozen 1
                    have hrx2 : (w5.setCell ⟨w.heap.size, 1, none⟩ (.int .i64 (0 : Int))).rowIs w.heap.size 51 3 (yy25 xk (0 : Int) []) := (hrx.set 1 (.int .i64 (0 : Int))).congr fun i hi => by rcases (show i = 0 ∨ i = 1 ∨ i = 2 by omega) with rfl | rfl | rfl <;> rfl
                    have hry2 : (w5.setCell ⟨w.heap.size, 1, none⟩ (.int .i64 (0 : Int))).rowIs (w.heap.size + 1) 51 3 (yy25 yk (v : Int) []) := hry.setOther (by show w.heap.size + 1 ≠ w.heap.size; omega) _
                    have y1 := (cm_row hry2).2.1
                    have yf := hry2.frozen 1
                    have hry3 : ((w5.setCell ⟨w.heap.size, 1, none⟩ (.int .i64 (0 : Int))).setCell ⟨w.heap.size + 1, 1, none⟩ (.int .i64 ((v - z : Nat) : Int))).rowIs (w.heap.size + 1) 51 3 (yy25 yk ((v - z : Nat) : Int) []) := (hry2.set 1 (.int .i64 ((v - z : Nat) : Int))).congr fun i hi => by rcases (show i = 0 ∨ i = 1 ∨ i = 2 by omega) with rfl | rfl | rfl <;> rfl
                    have hrx3 : ((w5.setCell ⟨w.heap.size, 1, none⟩ (.int .i64 (0 : Int))).setCell ⟨w.heap.size + 1, 1, none⟩ (.int .i64 ((v - z : Nat) : Int))).rowIs w.heap.size 51 3 (yy25 xk (0 : Int) []) := hrx2.setOther (by show w.heap.size ≠ w.heap.size + 1; omega) _
                    have x3 := (cm_row hrx3).2.1
                    have HMID : Hid (Mid w.heap.size (w.heap.size + 2) w5 ((w5.setCell ⟨w.heap.size, 1, none⟩ (.int .i64 (0 : Int))).setCell ⟨w.heap.size + 1, 1, none⟩ (.int .i64 ((v - z : Nat) : Int)))) := ((Mid.refl _ _ w5).set _ _ _ (by omega) (by omega)).set _ _ _ (by omega) (by omega)
                    have HRX3 := xh hrx3
                    have HRY3 := xh hry3
                    clear hrx hry hrx2 hry2 hrx3 hry3
                    rw [HG.out] at x1 xf y1 yf x3
                    obtain ⟨w7, HW7⟩ : ∃ x, Hid ((w5.setCell ⟨g, 1, none⟩ (.int .i64 (0 : Int))).setCell ⟨g + 1, 1, none⟩ (.int .i64 ((v - z : Nat) : Int)) = x) := ⟨_, rfl⟩
                    have HW7' : Hid ((w5.setCell ⟨w.heap.size, 1, none⟩ (.int .i64 (0 : Int))).setCell ⟨w.heap.size + 1, 1, none⟩ (.int .i64 ((v - z : Nat) : Int)) = w7) := by show _ = _; rw [HG.out]; exact HW7.out
                    rw [HW7'.out] at HRX3 HRY3 HMID
                    have HMAP : Hid (out'.map plain = out.map plain ++ (if d.kind = 1 then [piece c z] else [])) := by
                     show _ = _
                     rw [hout, List.map_append, List.map_singleton, if_pos HD1.out, HC.out.piece HCK.out]
                    have HFIT : Hid (∀ y ∈ out', 0 ≤ y.n ∧ y.n ≤ 4000) := fun y hy => by
                     rw [hout] at hy
                     rcases List.mem_append.1 hy with hy | hy
                     ·exact HW.out.fit y hy
                     ·rw [List.mem_singleton.1 hy]; show 0 ≤ (z : Int) ∧ (z : Int) ≤ 4000; omega
                    have HN : Hid (min (sz c) (sz d) = z) := by show _ = _; have := HZ.out; have := HV.out; omega
                    have HUP7 : Hid (w.heap.size + 2 ≤ w7.heap.size) := Nat.le_trans (Nat.le_trans HW.out.up hbel.size) HMID.out.size
                    have HBE7 : Hid (Below w.heap.size w w7) := HMID.out.below (HW.out.bel.trans (hbel.mono (by omega))) (Nat.le_refl _) (by have : w.heap.size + 2 ≤ w5.heap.size := (Nat.le_trans HW.out.up hbel.size); omega)
                    have HOW7 : Hid (w7.ownsRow (w.heap.size + 2) 51 3 (.slice A5 out'.length c5) out'.length (out'.flatMap yy2)) := HMID.out.own hown (Nat.le_refl _)
                    have HCHC : Hid (chop c la z = [] ++ la) := if_pos HZ.out.symm
                    obtain ⟨pb', hpb, hys, hpl⟩ := ys_cut (b := lb) (n := z) HD.out HDK.out (by have := HV.out; omega)
                    rw [HV.out] at hys
                    have HPB := xh hpb
                    have HYS := xh hys
                    have HPL := xh hpl
                    clear hpb hys hpl
                    have HWZ : Hid (XWk w f o la lb out' [] pb' (.slice A1 la.length c1) (.slice B1 lb.length d1) (.slice A5 out'.length c5) xk (0 : Int) [] yk ((v - z : Nat) : Int) [] w7) :=
                     ⟨HW.out.a, HW.out.b, HRX3.out, HRY3.out, HOW7.out, HUP7.out, HBE7.out, HW.out.fa, HW.out.fb, HW.out.la_, HW.out.lb_, (by
                      obtain ⟨r, h1, h2⟩ := HW.out.rest
                      have h1' : Ov f (c :: la) (d :: lb) r := h1
                      obtain ⟨r', h3, h4⟩ := ov_cut h1' HCK.out HDK.out HN.out
                      rw [HCHC.out, HPB.out] at h4
                      exact ⟨r', h4, h2.trans (by rw [h3, ← List.append_assoc]; exact congrArg (· ++ r') HMAP.out.symm)⟩), HW.out.ol, HFIT.out⟩
                    clear hout hown hbel)
       go_step3
       rw [HW7.out]
       first | rw [yy1] | rw [yy7, yy1] | rw [yy9, yy7, yy1] | rw [yy9, yy1]
       exact ⟨_, ⟨la, lb, out', pb', _, _, _, _, _, _, _, _, _, HG.out ▸ XFr.mk ⟨rfl, rfl, rfl, rfl, rfl, rfl, rfl⟩, HWZ.out, HYS.out, rfl⟩, by have := HM.out; have := HPL.out; simp only [List.length_cons, List.length_nil] at *; omega⟩
      ·have s1 : (yk == 1) = false := xn hyk1
       have HD1 : Hid (¬ d.kind = 1) := fun h => hyk1 (HYK.out.1 h)
       clear hyk1
       have hrx : w1.rowIs w.heap.size 51 3 (yy25 xk (z : Int) []) := HW.out.x
       have hry : w1.rowIs (w.heap.size + 1) 51 3 (yy25 yk (v : Int) []) := HW.out.y
       have x1 := (cm_row hrx).2.1
       have xf := hrx.frozen 1
       have hrx2 : (w1.setCell ⟨w.heap.size, 1, none⟩ (.int .i64 (0 : Int))).rowIs w.heap.size 51 3 (yy25 xk (0 : Int) []) := (hrx.set 1 (.int .i64 (0 : Int))).congr fun i hi => by rcases (show i = 0 ∨ i = 1 ∨ i = 2 by omega) with rfl | rfl | rfl <;> rfl
       have hry2 : (w1.setCell ⟨w.heap.size, 1, none⟩ (.int .i64 (0 : Int))).rowIs (w.heap.size + 1) 51 3 (yy25 yk (v : Int) []) := hry.setOther (by show w.heap.size + 1 ≠ w.heap.size; omega) _
       have y1 := (cm_row hry2).2.1
       have yf := hry2.frozen 1
       have hry3 : ((w1.setCell ⟨w.heap.size, 1, none⟩ (.int .i64 (0 : Int))).setCell ⟨w.heap.size + 1, 1, none⟩ (.int .i64 ((v - z : Nat) : Int))).rowIs (w.heap.size + 1) 51 3 (yy25 yk ((v - z : Nat) : Int) []) := (hry2.set 1 (.int .i64 ((v - z : Nat) : Int))).congr fun i hi => by rcases (show i = 0 ∨ i = 1 ∨ i = 2 by omega) with rfl | rfl | rfl <;> rfl
       have hrx3 : ((w1.setCell ⟨w.heap.size, 1, none⟩ (.int .i64 (0 : Int))).setCell ⟨w.heap.size + 1, 1, none⟩ (.int .i64 ((v - z : Nat) : Int))).rowIs w.heap.size 51 3 (yy25 xk (0 : Int) []) := hrx2.setOther (by show w.heap.size ≠ w.heap.size + 1; omega) _
       have x3 := (cm_row hrx3).2.1
       have HMID : Hid (Mid w.heap.size (w.heap.size + 2) w1 ((w1.setCell ⟨w.heap.size, 1, none⟩ (.int .i64 (0 : Int))).setCell ⟨w.heap.size + 1, 1, none⟩ (.int .i64 ((v - z : Nat) : Int)))) := ((Mid.refl _ _ w1).set _ _ _ (by omega) (by omega)).set _ _ _ (by omega) (by omega)
       have HRX3 := xh hrx3
       have HRY3 := xh hry3
       clear hrx hry hrx2 hry2 hrx3 hry3
       rw [HG.out] at x1 xf y1 yf x3
       obtain ⟨w7, HW7⟩ : ∃ x, Hid ((w1.setCell ⟨g, 1, none⟩ (.int .i64 (0 : Int))).setCell ⟨g + 1, 1, none⟩ (.int .i64 ((v - z : Nat) : Int)) = x) := ⟨_, rfl⟩
       have HW7' : Hid ((w1.setCell ⟨w.heap.size, 1, none⟩ (.int .i64 (0 : Int))).setCell ⟨w.heap.size + 1, 1, none⟩ (.int .i64 ((v - z : Nat) : Int)) = w7) := by show _ = _; rw [HG.out]; exact HW7.out
       rw [HW7'.out] at HRX3 HRY3 HMID
       have HMAP : Hid (out.map plain = out.map plain ++ (if d.kind = 1 then [piece c z] else [])) := by
        show _ = _
        rw [if_neg HD1.out, List.append_nil]
       have HFIT : Hid (∀ y ∈ out, 0 ≤ y.n ∧ y.n ≤ 4000) := HW.out.fit
       have HN : Hid (min (sz c) (sz d) = z) := by show _ = _; have := HZ.out; have := HV.out; omega
       have HUP7 : Hid (w.heap.size + 2 ≤ w7.heap.size) := Nat.le_trans HW.out.up HMID.out.size
       have HBE7 : Hid (Below w.heap.size w w7) := HMID.out.below HW.out.bel (Nat.le_refl _) (by have : w.heap.size + 2 ≤ w1.heap.size := HW.out.up; omega)
       have HOW7 : Hid (w7.ownsRow (w.heap.size + 2) 51 3 (.slice A3 out.length c3) out.length (out.flatMap yy2)) := HMID.out.own HW.out.own (Nat.le_refl _)
       have HCHC : Hid (chop c la z = [] ++ la) := if_pos HZ.out.symm
       obtain ⟨pb', hpb, hys, hpl⟩ := ys_cut (b := lb) (n := z) HD.out HDK.out (by have := HV.out; omega)
       rw [HV.out] at hys
       have HPB := xh hpb
       have HYS := xh hys
       have HPL := xh hpl
       clear hpb hys hpl
       have HWZ : Hid (XWk w f o la lb out [] pb' (.slice A1 la.length c1) (.slice B1 lb.length d1) (.slice A3 out.length c3) xk (0 : Int) [] yk ((v - z : Nat) : Int) [] w7) :=
        ⟨HW.out.a, HW.out.b, HRX3.out, HRY3.out, HOW7.out, HUP7.out, HBE7.out, HW.out.fa, HW.out.fb, HW.out.la_, HW.out.lb_, (by
         obtain ⟨r, h1, h2⟩ := HW.out.rest
         have h1' : Ov f (c :: la) (d :: lb) r := h1
         obtain ⟨r', h3, h4⟩ := ov_cut h1' HCK.out HDK.out HN.out
         rw [HCHC.out, HPB.out] at h4
         exact ⟨r', h4, h2.trans (by rw [h3, ← List.append_assoc]; exact congrArg (· ++ r') HMAP.out.symm)⟩), HW.out.ol, HFIT.out⟩
       go_wp2_with fail
       go_step3
       rw [HW7.out]
       first | rw [yy1] | rw [yy7, yy1] | rw [yy9, yy7, yy1] | rw [yy9, yy1]
       exact ⟨_, ⟨la, lb, out, pb', _, _, _, _, _, _, _, _, _, HG.out ▸ XFr.mk ⟨rfl, rfl, rfl, rfl, rfl, rfl, rfl⟩, HWZ.out, HYS.out, rfl⟩, by have := HM.out; have := HPL.out; simp only [List.length_cons, List.length_nil] at *; omega⟩
     ·have q0 : (v : Int) < (z : Int) := by omega
      have e1 : IntKind.i64.wrap ((z : Int) - (v : Int)) = ((z - v : Nat) : Int) := by rw [IntKind.wrap_i64]; omega
      have e2 : IntKind.i64.wrap ((v : Int) - (v : Int)) = (0 : Int) := by rw [IntKind.wrap_i64]; omega
      have zq : (((z - v : Nat) : Int) == 0) = false := xn (by omega)
      by_cases hyk1 : yk = 1
      ·have s1 : (yk == 1) = true := beq_iff_eq.2 hyk1
       have HD1 := xh (HYK.out.2 hyk1)
       clear hyk1
       go_wp2_with (at_builtin
                    go_loud (refine yy66 rfl (.tmp 62) (.tmp 67) rfl (w.heap.size + 2) (.slice A3 out.length c3) out ⟨xk, (v : Int), []⟩ rfl HW.out.own HW.out.up rfl (by have := HW.out.len; omega) ?_)
                    intro out' A5 c5 w5 hout hown hbel
                    clear x0 x1 x2 y0 y1 y2
                    have hrx : w5.rowIs w.heap.size 51 3 (yy25 xk (z : Int) []) := HW.out.x.of_block (hbel.block _ (by omega))
                    have hry : w5.rowIs (w.heap.size + 1) 51 3 (yy25 yk (v : Int) []) := HW.out.y.of_block (hbel.block _ (by omega))
                    have x1 := (cm_row hrx).2.1
                    have xf := hrx.frozen 1
                    have hrx2 : (w5.setCell ⟨w.heap.size, 1, none⟩ (.int .i64 ((z - v : Nat) : Int))).rowIs w.heap.size 51 3 (yy25 xk ((z - v : Nat) : Int) []) := (hrx.set 1 (.int .i64 ((z - v : Nat) : Int))).congr fun i hi => by rcases (show i = 0 ∨ i = 1 ∨ i = 2 by omega) with rfl | rfl | rfl <;> rfl
                    have hry2 : (w5.setCell ⟨w.heap.size, 1, none⟩ (.int .i64 ((z - v : Nat) : Int))).rowIs (w.heap.size + 1) 51 3 (yy25 yk (v : Int) []) := hry.setOther (by show w.heap.size + 1 ≠ w.heap.size; omega) _
                    have y1 := (cm_row hry2).2.1
                    have yf := hry2.frozen 1
                    have hry3 : ((w5.setCell ⟨w.heap.size, 1, none⟩ (.int .i64 ((z - v : Nat) : Int))).setCell ⟨w.heap.size + 1, 1, none⟩ (.int .i64 (0 : Int))).rowIs (w.heap.size + 1) 51 3 (yy25 yk (0 : Int) []) := (hry2.set 1 (.int .i64 (0 : Int))).congr fun i hi => by rcases (show i = 0 ∨ i = 1 ∨ i = 2 by omega) with rfl | rfl | rfl <;> rfl
                    have hrx3 : ((w5.setCell ⟨w.heap.size, 1, none⟩ (.int .i64 ((z - v : Nat) : Int))).setCell ⟨w.heap.size + 1, 1, none⟩ (.int .i64 (0 : Int))).rowIs w.heap.size 51 3 (yy25 xk ((z - v : Nat) : Int) []) := hrx2.setOther (by show w.heap.size ≠ w.heap.size + 1; omega) _
                    have x3 := (cm_row hrx3).2.1
                    have HMID : Hid (Mid w.heap.size (w.heap.size + 2) w5 ((w5.setCell ⟨w.heap.size, 1, none⟩ (.int .i64 ((z - v : Nat) : Int))).setCell ⟨w.heap.size + 1, 1, none⟩ (.int .i64 (0 : Int)))) := ((Mid.refl _ _ w5).set _ _ _ (by omega) (by omega)).set _ _ _ (by omega) (by omega)
                    have HRX3 := xh hrx3
                    have HRY3 := xh hry3
                    clear hrx hry hrx2 hry2 hrx3 hry3
                    rw [HG.out] at x1 xf y1 yf x3
                    obtain ⟨w7, HW7⟩ : ∃ x, Hid ((w5.setCell ⟨g, 1, none⟩ (.int .i64 ((z - v : Nat) : Int))).setCell ⟨g + 1, 1, none⟩ (.int .i64 (0 : Int)) = x) := ⟨_, rfl⟩
                    have HW7' : Hid ((w5.setCell ⟨w.heap.size, 1, none⟩ (.int .i64 ((z - v : Nat) : Int))).setCell ⟨w.heap.size + 1, 1, none⟩ (.int .i64 (0 : Int)) = w7) := by show _ = _; rw [HG.out]; exact HW7.out
                    rw [HW7'.out] at HRX3 HRY3 HMID
                    have HMAP : Hid (out'.map plain = out.map plain ++ (if d.kind = 1 then [piece c v] else [])) := by
                     show _ = _
                     rw [hout, List.map_append, List.map_singleton, if_pos HD1.out, HC.out.piece HCK.out]
                    have HFIT : Hid (∀ y ∈ out', 0 ≤ y.n ∧ y.n ≤ 4000) := fun y hy => by
                     rw [hout] at hy
                     rcases List.mem_append.1 hy with hy | hy
                     ·exact HW.out.fit y hy
                     ·rw [List.mem_singleton.1 hy]; show 0 ≤ (v : Int) ∧ (v : Int) ≤ 4000; omega
                    have HN : Hid (min (sz c) (sz d) = v) := by show _ = _; have := HZ.out; have := HV.out; omega
                    have HUP7 : Hid (w.heap.size + 2 ≤ w7.heap.size) := Nat.le_trans (Nat.le_trans HW.out.up hbel.size) HMID.out.size
                    have HBE7 : Hid (Below w.heap.size w w7) := HMID.out.below (HW.out.bel.trans (hbel.mono (by omega))) (Nat.le_refl _) (by have : w.heap.size + 2 ≤ w5.heap.size := (Nat.le_trans HW.out.up hbel.size); omega)
                    have HOW7 : Hid (w7.ownsRow (w.heap.size + 2) 51 3 (.slice A5 out'.length c5) out'.length (out'.flatMap yy2)) := HMID.out.own hown (Nat.le_refl _)
                    have HCHC : Hid (chop c la v = [cut c v] ++ la) := if_neg (by have := HZ.out; omega)
                    have HPB : Hid (chop d lb v = [] ++ lb) := if_pos HV.out.symm
                    have HXS : Hid (XS [cut c v] la xk ((z - v : Nat) : Int) []) := .inr ⟨_, rfl, by have h := HC.out.cut HCK.out (n := v) (by have := HZ.out; omega); rw [HZ.out] at h; exact h⟩
                    have HWZ : Hid (XWk w f o la lb out' [cut c v] [] (.slice A1 la.length c1) (.slice B1 lb.length d1) (.slice A5 out'.length c5) xk ((z - v : Nat) : Int) [] yk (0 : Int) [] w7) :=
                     ⟨HW.out.a, HW.out.b, HRX3.out, HRY3.out, HOW7.out, HUP7.out, HBE7.out, HW.out.fa, HW.out.fb, HW.out.la_, HW.out.lb_, (by
                      obtain ⟨r, h1, h2⟩ := HW.out.rest
                      have h1' : Ov f (c :: la) (d :: lb) r := h1
                      obtain ⟨r', h3, h4⟩ := ov_cut h1' HCK.out HDK.out HN.out
                      rw [HCHC.out, HPB.out] at h4
                      exact ⟨r', h4, h2.trans (by rw [h3, ← List.append_assoc]; exact congrArg (· ++ r') HMAP.out.symm)⟩), HW.out.ol, HFIT.out⟩
                    clear hout hown hbel)
       go_step3
       rw [HW7.out]
       first | rw [yy1] | rw [yy7, yy1] | rw [yy9, yy7, yy1] | rw [yy9, yy1]
       exact ⟨_, ⟨la, lb, out', [cut c v], _, _, _, _, _, _, _, _, _, HG.out ▸ XFr.mk ⟨rfl, rfl, rfl, rfl, rfl, rfl, rfl⟩, HWZ.out, HXS.out, rfl⟩, by have := HM.out; simp only [List.length_cons, List.length_nil] at *; omega⟩
      ·have s1 : (yk == 1) = false := xn hyk1
       have HD1 : Hid (¬ d.kind = 1) := fun h => hyk1 (HYK.out.1 h)
       clear hyk1
       have hrx : w1.rowIs w.heap.size 51 3 (yy25 xk (z : Int) []) := HW.out.x
       have hry : w1.rowIs (w.heap.size + 1) 51 3 (yy25 yk (v : Int) []) := HW.out.y
       have x1 := (cm_row hrx).2.1
       have xf := hrx.frozen 1
       have hrx2 : (w1.setCell ⟨w.heap.size, 1, none⟩ (.int .i64 ((z - v : Nat) : Int))).rowIs w.heap.size 51 3 (yy25 xk ((z - v : Nat) : Int) []) := (hrx.set 1 (.int .i64 ((z - v : Nat) : Int))).congr fun i hi => by rcases (show i = 0 ∨ i = 1 ∨ i = 2 by omega) with rfl | rfl | rfl <;> rfl
       have hry2 : (w1.setCell ⟨w.heap.size, 1, none⟩ (.int .i64 ((z - v : Nat) : Int))).rowIs (w.heap.size + 1) 51 3 (yy25 yk (v : Int) []) := hry.setOther (by show w.heap.size + 1 ≠ w.heap.size; omega) _
       have y1 := (cm_row hry2).2.1
       have yf := hry2.frozen 1
       have hry3 : ((w1.setCell ⟨w.heap.size, 1, none⟩ (.int .i64 ((z - v : Nat) : Int))).setCell ⟨w.heap.size + 1, 1, none⟩ (.int .i64 (0 : Int))).rowIs (w.heap.size + 1) 51 3 (yy25 yk (0 : Int) []) := (hry2.set 1 (.int .i64 (0 : Int))).congr fun i hi => by rcases (show i = 0 ∨ i = 1 ∨ i = 2 by omega) with rfl | rfl | rfl <;> rfl
       have hrx3 : ((w1.setCell ⟨w.heap.size, 1, none⟩ (.int .i64 ((z - v : Nat) : Int))).setCell ⟨w.heap.size + 1, 1, none⟩ (.int .i64 (0 : Int))).rowIs w.heap.size 51 3 (yy25 xk ((z - v : Nat) : Int) []) := hrx2.setOther (by show w.heap.size ≠ w.heap.size + 1; omega) _
       have x3 := (cm_row hrx3).2.1
       have HMID : Hid (Mid w.heap.size (w.heap.size + 2) w1 ((w1.setCell ⟨w.heap.size, 1, none⟩ (.int .i64 ((z - v : Nat) : Int))).setCell ⟨w.heap.size + 1, 1, none⟩ (.int .i64 (0 : Int)))) := ((Mid.refl _ _ w1).set _ _ _ (by omega) (by omega)).set _ _ _ (by omega) (by omega)
       have HRX3 := xh hrx3
       have HRY3 := xh hry3
       clear hrx hry hrx2 hry2 hrx3 hry3
       rw [HG.out] at x1 xf y1 yf x3
       obtain ⟨w7, HW7⟩ : ∃ x, Hid ((w1.setCell ⟨g, 1, none⟩ (.int .i64 ((z - v : Nat) : Int))).setCell ⟨g + 1, 1, none⟩ (.int .i64 (0 : Int)) = x) := ⟨_, rfl⟩
       have HW7' : Hid ((w1.setCell ⟨w.heap.size, 1, none⟩ (.int .i64 ((z - v : Nat) : Int))).setCell ⟨w.heap.size + 1, 1, none⟩ (.int .i64 (0 : Int)) = w7) := by show _ = _; rw [HG.out]; exact HW7.out
       rw [HW7'.out] at HRX3 HRY3 HMID
       have HMAP : Hid (out.map plain = out.map plain ++ (if d.kind = 1 then [piece c v] else [])) := by
        show _ = _
        rw [if_neg HD1.out, List.append_nil]
       have HFIT : Hid (∀ y ∈ out, 0 ≤ y.n ∧ y.n ≤ 4000) := HW.out.fit
       have HN : Hid (min (sz c) (sz d) = v) := by show _ = _; have := HZ.out; have := HV.out; omega
       have HUP7 : Hid (w.heap.size + 2 ≤ w7.heap.size) := Nat.le_trans HW.out.up HMID.out.size
       have HBE7 : Hid (Below w.heap.size w w7) := HMID.out.below HW.out.bel (Nat.le_refl _) (by have : w.heap.size + 2 ≤ w1.heap.size := HW.out.up; omega)
       have HOW7 : Hid (w7.ownsRow (w.heap.size + 2) 51 3 (.slice A3 out.length c3) out.length (out.flatMap yy2)) := HMID.out.own HW.out.own (Nat.le_refl _)
       have HCHC : Hid (chop c la v = [cut c v] ++ la) := if_neg (by have := HZ.out; omega)
       have HPB : Hid (chop d lb v = [] ++ lb) := if_pos HV.out.symm
       have HXS : Hid (XS [cut c v] la xk ((z - v : Nat) : Int) []) := .inr ⟨_, rfl, by have h := HC.out.cut HCK.out (n := v) (by have := HZ.out; omega); rw [HZ.out] at h; exact h⟩
       have HWZ : Hid (XWk w f o la lb out [cut c v] [] (.slice A1 la.length c1) (.slice B1 lb.length d1) (.slice A3 out.length c3) xk ((z - v : Nat) : Int) [] yk (0 : Int) [] w7) :=
        ⟨HW.out.a, HW.out.b, HRX3.out, HRY3.out, HOW7.out, HUP7.out, HBE7.out, HW.out.fa, HW.out.fb, HW.out.la_, HW.out.lb_, (by
         obtain ⟨r, h1, h2⟩ := HW.out.rest
         have h1' : Ov f (c :: la) (d :: lb) r := h1
         obtain ⟨r', h3, h4⟩ := ov_cut h1' HCK.out HDK.out HN.out
         rw [HCHC.out, HPB.out] at h4
         exact ⟨r', h4, h2.trans (by rw [h3, ← List.append_assoc]; exact congrArg (· ++ r') HMAP.out.symm)⟩), HW.out.ol, HFIT.out⟩
       go_wp2_with fail
       go_step3
       rw [HW7.out]
       first | rw [yy1] | rw [yy7, yy1] | rw [yy9, yy7, yy1] | rw [yy9, yy1]
       exact ⟨_, ⟨la, lb, out, [cut c v], _, _, _, _, _, _, _, _, _, HG.out ▸ XFr.mk ⟨rfl, rfl, rfl, rfl, rfl, rfl, rfl⟩, HWZ.out, HXS.out, rfl⟩, by have := HM.out; simp only [List.length_cons, List.length_nil] at *; omega⟩
 case p2 =>
  intro P1
  have P1' := xh P1; clear P1
  rintro k act w1 ⟨la, lb, out, pa, sa, sb, so, xk, xz, xt, yk, yn, yt, hf, hw, hx, rfl⟩
  have HX := xh hx
  clear hx
  obtain ⟨A1, c1, rfl, hA1⟩ := hw.a
  obtain ⟨B1, d1, rfl, hB1⟩ := hw.b
  obtain ⟨A3, c3, rfl⟩ := own_slice hw.own
  obtain ⟨m, HM⟩ : ∃ m, Hid (m = 3 * (3 * (la.length + lb.length) + pa.length) + 1) := ⟨_, rfl⟩
  rw [← HM.out]
  obtain ⟨F, rfl⟩ := hf.out
  clear hf
  rw [HG.out]
  have HW := xh hw
  have HA1 := xh hB1
  have GP := xh (fun w1 h => yy291 B1 d1 lb HW.out.fb (by have := HW.out.lb_; unfold maxLen; omega) w1 h)
  unfold yy502 at GP
  have HXS := xh (yy633 HW.out.fb)
  have HLN : Hid (lb.length ≤ lb.tail.length + 1 ∧ (lb.take 1).length ≤ 1 ∧ lb.length = lb.tail.length + (lb.take 1).length) := by
   show _ ∧ _ ∧ _
   cases lb <;> simp
  have HLOAD := xh (fun A' c' (h : CompsC w A' c' lb.tail) (w' : World) (hb : Below w1.heap.size w1 w') => (HW.out.below hb).loadY h)
  obtain ⟨q, HQ⟩ : ∃ q, Hid (partOf lb = q) := ⟨_, rfl⟩
  obtain ⟨tl, HT⟩ : ∃ x, Hid (lb.tail = x) := ⟨_, rfl⟩
  obtain ⟨p, HP⟩ : ∃ x, Hid (lb.take 1 = x) := ⟨_, rfl⟩
  have HAW : Hid (CompsC w1 B1 d1 lb) := hB1.below HW.out.bel
  rw [HQ.out, HT.out] at GP
  rw [HQ.out, HT.out, HP.out] at HXS HLOAD
  rw [HT.out, HP.out] at HLN
  obtain ⟨qk, qn, qt⟩ := q
  simp only at GP HXS HLOAD
  clear hw hA1 hB1
  go_wp2_with fail
  refine (GP.out _ HAW.out).mono ?_
  rintro e w2 ⟨A2, c2, rfl, hA2, hb2⟩
  have hrow := HW.out.y.of_block (hb2.block _ HW.out.y.lt)
  obtain ⟨a0, a1, a2, a3, a4, a5, _⟩ := three hrow (.int .i64 qk) (.int .i64 qn) (.string (bstr qt))
  have HWL := xh (HLOAD.out A2 c2 (hA2 w HA1.out) w2 hb2)
  clear hrow hb2 hA2 HLOAD
  rw [HG.out] at a0 a1 a2 a3 a4 a5 HWL
  obtain ⟨w3, HW3⟩ : ∃ x, Hid (((w2.setCell ⟨g + 1, 0, none⟩ (.int .i64 qk)).setCell ⟨g + 1, 1, none⟩ (.int .i64 qn)).setCell ⟨g + 1, 2, none⟩ (.string (bstr qt)) = x) := ⟨_, rfl⟩
  rw [HW3.out] at HWL
  go_wp2_with fail
  go_step3
  rw [HW3.out]
  rename_i K hK
  refine hK _ _ (yy100 ?_ (P1'.out _ _ _ ⟨la, tl, out, pa, p, _, _, _, _, _, _, _, _, _, HG.out ▸ XFr.mk ⟨rfl, rfl, rfl, rfl, rfl, rfl, rfl⟩, HWL.out, HX.out, HXS.out, rfl⟩))
  have := HM.out
  have := HLN.out
  omega
 case p0 =>
  intro P2
  have P2' := xh P2; clear P2
  rintro k act w1 ⟨la, lb, out, pb, sa, sb, so, xk, xz, xt, yk, yn, yt, hf, hw, hy, rfl⟩
  have HY := xh hy
  clear hy
  obtain ⟨A1, c1, rfl, hA1⟩ := hw.a
  obtain ⟨B1, d1, rfl, hB1⟩ := hw.b
  obtain ⟨A3, c3, rfl⟩ := own_slice hw.own
  obtain ⟨m, HM⟩ : ∃ m, Hid (m = 3 * (3 * (la.length + lb.length) + pb.length) + 2) := ⟨_, rfl⟩
  rw [← HM.out]
  obtain ⟨F, rfl⟩ := hf.out
  clear hf
  rw [HG.out]
  have HW := xh hw
  have HA1 := xh hA1
  have GP := xh (fun w1 h => yy291 A1 c1 la HW.out.fa (by have := HW.out.la_; unfold maxLen; omega) w1 h)
  unfold yy502 at GP
  have HXS := xh (yy633 HW.out.fa)
  have HLN : Hid (la.length ≤ la.tail.length + 1 ∧ (la.take 1).length ≤ 1 ∧ la.length = la.tail.length + (la.take 1).length) := by
   show _ ∧ _ ∧ _
   cases la <;> simp
  have HLOAD := xh (fun A' c' (h : CompsC w A' c' la.tail) (w' : World) (hb : Below w1.heap.size w1 w') => (HW.out.below hb).loadX h)
  obtain ⟨q, HQ⟩ : ∃ q, Hid (partOf la = q) := ⟨_, rfl⟩
  obtain ⟨tl, HT⟩ : ∃ x, Hid (la.tail = x) := ⟨_, rfl⟩
  obtain ⟨p, HP⟩ : ∃ x, Hid (la.take 1 = x) := ⟨_, rfl⟩
  have HAW : Hid (CompsC w1 A1 c1 la) := hA1.below HW.out.bel
  rw [HQ.out, HT.out] at GP
  rw [HQ.out, HT.out, HP.out] at HXS HLOAD
  rw [HT.out, HP.out] at HLN
  obtain ⟨qk, qn, qt⟩ := q
  simp only at GP HXS HLOAD
  clear hw hA1 hB1
  go_wp2_with fail
  refine (GP.out _ HAW.out).mono ?_
  rintro e w2 ⟨A2, c2, rfl, hA2, hb2⟩
  have hrow := HW.out.x.of_block (hb2.block _ HW.out.x.lt)
  obtain ⟨a0, a1, a2, a3, a4, a5, _⟩ := three hrow (.int .i64 qk) (.int .i64 qn) (.string (bstr qt))
  have HWL := xh (HLOAD.out A2 c2 (hA2 w HA1.out) w2 hb2)
  clear hrow hb2 hA2 HLOAD
  rw [HG.out] at a0 a1 a2 a3 a4 a5 HWL
  obtain ⟨w3, HW3⟩ : ∃ x, Hid (((w2.setCell ⟨g, 0, none⟩ (.int .i64 qk)).setCell ⟨g, 1, none⟩ (.int .i64 qn)).setCell ⟨g, 2, none⟩ (.string (bstr qt)) = x) := ⟨_, rfl⟩
  rw [HW3.out] at HWL
  have HY2 := HY.out
  have z1 := (cm_row HWL.out.y).2.1
  rw [HG.out, ← HW3.out] at z1
  rcases HY2 with ⟨rfl, rfl⟩ | ⟨d, rfl, hd⟩
  ·go_wp2_with fail
   go_step3
   rw [HW3.out]
   rename_i K hK
   refine hK _ _ (yy100 ?_ (P2'.out _ _ _ ⟨tl, lb, out, p, _, _, _, _, _, _, _, _, _, HG.out ▸ XFr.mk ⟨rfl, rfl, rfl, rfl, rfl, rfl, rfl⟩, HWL.out, HXS.out, rfl⟩))
   have := HM.out
   have := HLN.out
   simp only [List.length_nil] at *
   omega
  ·have hn : 0 < yn := by have := hd.1.sz; have := hd.2.2.2.1; omega
   have HYD := xh hd
   clear hd
   go_wp2_with fail
   go_step3
   rw [HW3.out]
   first | rw [yy1] | rw [yy7, yy1] | rw [yy9, yy7, yy1] | rw [yy9, yy1]
   exact ⟨_, ⟨tl, lb, out, p, [d], _, _, _, _, _, _, _, _, _, HG.out ▸ XFr.mk ⟨rfl, rfl, rfl, rfl, rfl, rfl, rfl⟩, HWL.out, HXS.out, .inr ⟨d, rfl, HYD.out⟩, rfl⟩, by have := HM.out; have := HLN.out; simp only [List.length_cons, List.length_nil] at *; omega⟩
end Go.Proofs.YtjpjdkdbgjipnaaDoor
