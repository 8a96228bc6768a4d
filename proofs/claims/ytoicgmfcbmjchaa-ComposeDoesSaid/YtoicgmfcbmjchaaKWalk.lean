/- The landed walk of compose over two edits: goto to the next part of either. Conditions: no part of more than 4000 code points, no more than 10^6 parts. -/
import Derived.Test.YtoicgmfcbmjchaaKCut
import Derived.Test.YtoicgmfcbmjchaaKPair
import Derived.Test.YtoicgmfcbmjchaaKPp
import Derived.WalkMore
/- The landed walk of compose over two edits: goto to the next part of either. Conditions: no part of more than 4000 code points, no more than 10^6 parts. -/
namespace Go.Proofs.Ytoicgmfcbmjchaa
open Go.RowKit Go.Deep

theorem wp_scope_chain {P : Program} {c r0 r1 r2 : Code} {a : Act} {w : World} {Q : Exit → Act → World → Prop} (J : Nat → Act → World → Prop) (μ : Nat → Act → Nat)
    (hJ : ∀ l a w, J l a w → l < 3) (h0 : findLabel c 0 = some (Code.skip.seq r0)) (h1 : findLabel c 1 = some (Code.skip.seq r1)) (h2 : findLabel c 2 = some (Code.skip.seq r2))
    (p2 : Pass P r2 J μ Q 2) (p0 : Pass P r2 J μ Q 2 → Pass P r0 J μ Q 0) (p1 : Pass P r0 J μ Q 0 → Pass P r1 J μ Q 1)
    (first : Pass P r1 J μ Q 1 → ∃ n, c.wp P (down J μ n Q) a w) : (Code.scope c).wp P Q a w :=
  wp_scope_three J μ hJ h0 h1 h2 (p0 p2) (p1 (p0 p2)) p2 first

theorem down_quiet {K : Act → World → Prop} {J : Nat → Act → World → Prop} {μ : Nat → Act → Nat} {n : Nat} {P : Program} {fn : Func} {R : Ending → World → Prop} (c : List PanicEntry) (a : Act) (d : Option Tmp) (v : Value) (w : World)
    (h : Exit.then K (down J μ n (bodyPost P fn R)) (.panic c) (Act.put a d v) w) : Exit.then K (down J μ n (bodyPost P fn R)) (.panic c) a w := by
  have e : ∀ a, Exit.then K (down J μ n (bodyPost P fn R)) (.panic c) a w = bodyPost P fn R (.panic c) a w := fun a => by
    show down J μ n (bodyPost P fn R) (.panic c) a w = _
    unfold down
    rfl
  rw [e] at h ⊢
  cases d <;> exact h
/-- A frame of the walk. -/
def CFr (a : Act) (sa sb so : Value) (g : Nat) : Prop := a.defers = [] ∧ a.tmps.size = 52 ∧ a.tmps[0]? = some sa ∧ a.tmps[1]? = some sb ∧ a.tmps[5]? = some so ∧ a.tmps[6]? = some (.pointer (some ⟨g, 0, none⟩)) ∧ a.tmps[7]? = some (.pointer (some ⟨g + 1, 0, none⟩))
theorem CFr.out {a : Act} {sa sb so : Value} {g : Nat} (h : CFr a sa sb so g) : ∃ f : Nat → Value, a = { tmps := #[sa, sb, f 2, f 3, f 4, so, .pointer (some ⟨g, 0, none⟩), .pointer (some ⟨g + 1, 0, none⟩), f 8, f 9, f 10, f 11, f 12, f 13, f 14, f 15, f 16, f 17, f 18, f 19, f 20, f 21, f 22, f 23, f 24, f 25, f 26, f 27, f 28, f 29, f 30, f 31, f 32, f 33, f 34, f 35, f 36, f 37, f 38, f 39, f 40, f 41, f 42, f 43, f 44, f 45, f 46, f 47, f 48, f 49, f 50, f 51], defers := [] } := by
  obtain ⟨t, d⟩ := a
  obtain ⟨rfl, hs, h0, h1, h5, h6, h7⟩ := h
  simp only at hs h0 h1 h5 h6 h7
  refine ⟨fun n => (t[n]?).getD undef, ?_⟩
  have e : t = ((List.range 52).map fun i => (t[i]?).getD undef).toArray := by
    apply Array.ext
    · simp [hs]
    · intro i h1 h2
      simp [h1]
  have e2 : ((List.range 52).map fun i => (t[i]?).getD undef).toArray = #[(t[0]?).getD undef, (t[1]?).getD undef, (t[2]?).getD undef, (t[3]?).getD undef, (t[4]?).getD undef, (t[5]?).getD undef, (t[6]?).getD undef, (t[7]?).getD undef, (t[8]?).getD undef, (t[9]?).getD undef, (t[10]?).getD undef, (t[11]?).getD undef, (t[12]?).getD undef, (t[13]?).getD undef, (t[14]?).getD undef, (t[15]?).getD undef, (t[16]?).getD undef, (t[17]?).getD undef, (t[18]?).getD undef, (t[19]?).getD undef, (t[20]?).getD undef, (t[21]?).getD undef, (t[22]?).getD undef, (t[23]?).getD undef, (t[24]?).getD undef, (t[25]?).getD undef, (t[26]?).getD undef, (t[27]?).getD undef, (t[28]?).getD undef, (t[29]?).getD undef, (t[30]?).getD undef, (t[31]?).getD undef, (t[32]?).getD undef, (t[33]?).getD undef, (t[34]?).getD undef, (t[35]?).getD undef, (t[36]?).getD undef, (t[37]?).getD undef, (t[38]?).getD undef, (t[39]?).getD undef, (t[40]?).getD undef, (t[41]?).getD undef, (t[42]?).getD undef, (t[43]?).getD undef, (t[44]?).getD undef, (t[45]?).getD undef, (t[46]?).getD undef, (t[47]?).getD undef, (t[48]?).getD undef, (t[49]?).getD undef, (t[50]?).getD undef, (t[51]?).getD undef] := rfl
  simp only [h0, h1, h5, h6, h7, Option.getD_some] at e2
  rw [← e2, ← e]
attribute [irreducible] CFr
theorem CFr.mk {t : Array Value} {sa sb so : Value} {g : Nat} (h : t.size = 52 ∧ t[0]? = some sa ∧ t[1]? = some sb ∧ t[5]? = some so ∧ t[6]? = some (.pointer (some ⟨g, 0, none⟩)) ∧ t[7]? = some (.pointer (some ⟨g + 1, 0, none⟩))) : CFr { tmps := t, defers := [] } sa sb so g := by
  unfold CFr
  exact ⟨rfl, h⟩
/-- How long a slice is. -/
def slLen : Value → Nat
  | .slice _ n _ => n
  | _ => 0
theorem CFr.at0 {a : Act} {sa sb so : Value} {g : Nat} (h : CFr a sa sb so g) : a.tmps.getD 0 undef = sa := by
  obtain ⟨f, rfl⟩ := h.out
  rfl
theorem CFr.at1 {a : Act} {sa sb so : Value} {g : Nat} (h : CFr a sa sb so g) : a.tmps.getD 1 undef = sb := by
  obtain ⟨f, rfl⟩ := h.out
  rfl

/-- What the cells of the first edit's part show; of the second one's. -/
def XIs (c : CompV) (xk xz : Int) (xt : List Nat) : Prop := c.kind ≠ 3 ∧ Wh c ∧ sz c ≤ 4000 ∧ xk = c.kind ∧ xz = (sz c : Int) ∧ xt = c.text
def YIs (d : CompV) (yk yn : Int) (yt : List Nat) : Prop := d.kind ≠ 2 ∧ Wh d ∧ sz d ≤ 4000 ∧ yk = d.kind ∧ yn = (sz d : Int) ∧ yt = d.text
/-- Where the walk stands: what is left of both edits, behind what is left of a part of each; what was made. -/
structure Wk (W : World) (o la lb out pa pb : List CompV) (sa sb so : Value) (xk xz : Int) (xt : List Nat) (yk yn : Int) (yt : List Nat) (w : World) : Prop where
  a : ∃ A c, sa = .slice A la.length c ∧ CompsAt W A la ∧ la.length ≤ c
  b : ∃ A c, sb = .slice A lb.length c ∧ CompsAt W A lb ∧ lb.length ≤ c
  x : w.rowIs W.heap.size 49 3 (cmCells xk xz xt)
  y : w.rowIs (W.heap.size + 1) 49 3 (cmCells yk yn yt)
  own : w.ownsRow (W.heap.size + 2) 49 3 so out.length (out.flatMap compCells)
  up : W.heap.size + 2 ≤ w.heap.size
  bel : Below W.heap.size W w
  fa : ∀ c ∈ la, Wh c ∧ sz c ≤ 4000
  fb : ∀ c ∈ lb, Wh c ∧ sz c ≤ 4000
  rest : ∃ r, Cmp (pa ++ la) (pb ++ lb) r ∧ o = out.map plain ++ r
  ol : o.length ≤ 1000000
  fit : ∀ y ∈ out, 0 ≤ y.n ∧ y.n ≤ 4000
namespace Wk
variable {W w w' : World} {o la lb out pa pb : List CompV} {sa sb so : Value} {xk xz yk yn : Int} {xt yt : List Nat}
theorem len (h : Wk W o la lb out pa pb sa sb so xk xz xt yk yn yt w) : out.length ≤ 1000000 := by
  obtain ⟨r, _, e⟩ := h.rest
  have := congrArg List.length e
  rw [List.length_append, List.length_map] at this
  have := h.ol
  omega
theorem drew (h : Wk W o la lb out pa pb sa sb so xk xz xt yk yn yt w) : Wk W o la lb out pa pb sa sb so xk xz xt yk yn yt w.drew :=
  ⟨h.a, h.b, h.x, h.y, h.own, h.up, h.bel.drew, h.fa, h.fb, h.rest, h.ol, h.fit⟩
theorem below (h : Wk W o la lb out pa pb sa sb so xk xz xt yk yn yt w) (hb : Below w.heap.size w w') : Wk W o la lb out pa pb sa sb so xk xz xt yk yn yt w' :=
  ⟨h.a, h.b, h.x.of_block (hb.block _ h.x.lt), h.y.of_block (hb.block _ h.y.lt), own_below h.own hb, Nat.le_trans h.up hb.size, h.bel.trans (hb.mono h.bel.size), h.fa, h.fb, h.rest, h.ol, h.fit⟩
/-- The next part of the first edit, counted, is at hand; of the second one. -/
theorem loadX {c : CompV} {A' : Option Addr} {c' : Nat} (h : Wk W o (c :: la) lb out [] pb sa sb so xk xz xt yk yn yt w) (hA : CompsAt W A' la) (hc : la.length ≤ c') :
    Wk W o la lb out [c] pb (.slice A' la.length c') sb so c.kind (sz c : Int) c.text yk yn yt (((w.setCell ⟨W.heap.size, 0, none⟩ (.int .i64 c.kind)).setCell ⟨W.heap.size, 1, none⟩ (.int .i64 (sz c : Int))).setCell ⟨W.heap.size, 2, none⟩ (.string (bstr c.text))) := by
  have hm : Mid W.heap.size (W.heap.size + 2) w (((w.setCell ⟨W.heap.size, 0, none⟩ (.int .i64 c.kind)).setCell ⟨W.heap.size, 1, none⟩ (.int .i64 (sz c : Int))).setCell ⟨W.heap.size, 2, none⟩ (.string (bstr c.text))) :=
    (((Mid.refl _ _ w).set _ _ _ (Nat.le_refl _) (by omega)).set _ _ _ (Nat.le_refl _) (by omega)).set _ _ _ (Nat.le_refl _) (by omega)
  exact ⟨⟨A', c', rfl, hA, hc⟩, h.b, cm_chain h.x _ _ _, ((h.y.setOther (by show W.heap.size + 1 ≠ W.heap.size; omega) _).setOther (by show W.heap.size + 1 ≠ W.heap.size; omega) _).setOther (by show W.heap.size + 1 ≠ W.heap.size; omega) _, hm.own h.own (Nat.le_refl _),
    Nat.le_trans h.up hm.size, hm.below h.bel (Nat.le_refl _) (by have := h.up; omega), fun x hx => h.fa x (List.mem_cons_of_mem _ hx), h.fb, h.rest, h.ol, h.fit⟩
theorem loadY {d : CompV} {A' : Option Addr} {c' : Nat} (h : Wk W o la (d :: lb) out pa [] sa sb so xk xz xt yk yn yt w) (hA : CompsAt W A' lb) (hc : lb.length ≤ c') :
    Wk W o la lb out pa [d] sa (.slice A' lb.length c') so xk xz xt d.kind d.n d.text (((w.setCell ⟨W.heap.size + 1, 0, none⟩ (.int .i64 d.kind)).setCell ⟨W.heap.size + 1, 1, none⟩ (.int .i64 d.n)).setCell ⟨W.heap.size + 1, 2, none⟩ (.string (bstr d.text))) := by
  have hm : Mid W.heap.size (W.heap.size + 2) w (((w.setCell ⟨W.heap.size + 1, 0, none⟩ (.int .i64 d.kind)).setCell ⟨W.heap.size + 1, 1, none⟩ (.int .i64 d.n)).setCell ⟨W.heap.size + 1, 2, none⟩ (.string (bstr d.text))) :=
    (((Mid.refl _ _ w).set _ _ _ (by omega) (by omega)).set _ _ _ (by omega) (by omega)).set _ _ _ (by omega) (by omega)
  exact ⟨h.a, ⟨A', c', rfl, hA, hc⟩, ((h.x.setOther (by show W.heap.size ≠ W.heap.size + 1; omega) _).setOther (by show W.heap.size ≠ W.heap.size + 1; omega) _).setOther (by show W.heap.size ≠ W.heap.size + 1; omega) _, cm_chain h.y _ _ _, hm.own h.own (Nat.le_refl _),
    Nat.le_trans h.up hm.size, hm.below h.bel (Nat.le_refl _) (by have := h.up; omega), h.fa, fun x hx => h.fb x (List.mem_cons_of_mem _ hx), h.rest, h.ol, h.fit⟩
/-- A part more was made. -/
theorem pushed {cr : CompV} {pa' pb' out' : List CompV} {A' : Option Addr} {c' : Nat} (h : Wk W o la lb out pa pb sa sb so xk xz xt yk yn yt w) (hout : out' = out ++ [cr]) (hown : w'.ownsRow (W.heap.size + 2) 49 3 (.slice A' out'.length c') out'.length (out'.flatMap compCells)) (hb : Below (W.heap.size + 2) w w')
    (hcr : 0 ≤ cr.n ∧ cr.n ≤ 4000) (hr : ∀ r, Cmp (pa ++ la) (pb ++ lb) r → ∃ r', r = plain cr :: r' ∧ Cmp (pa' ++ la) (pb' ++ lb) r') : Wk W o la lb out' pa' pb' sa sb (.slice A' out'.length c') xk xz xt yk yn yt w' := by
  refine ⟨h.a, h.b, h.x.of_block (hb.block _ (by omega)), h.y.of_block (hb.block _ (by omega)), hown, Nat.le_trans h.up hb.size, h.bel.trans (hb.mono (by omega)), h.fa, h.fb, ?_, h.ol, fun y hy => by
    rw [hout] at hy
    rcases List.mem_append.1 hy with hy | hy
    · exact h.fit y hy
    · rw [List.mem_singleton.1 hy]; exact hcr⟩
  obtain ⟨r, h1, h2⟩ := h.rest
  obtain ⟨r', rfl, h3⟩ := hr r h1
  exact ⟨r', h3, by rw [h2, hout, List.map_append, List.append_assoc]; rfl⟩
end Wk
theorem plain_two {d : CompV} (h : Wh d) (hk : d.kind = 2) : plain d = d := by
  unfold plain
  rw [if_pos hk]
  rcases h.cases with g | g | g
  · omega
  · omega
  · obtain ⟨a, b, t⟩ := d
    simp only at g
    rw [g.1, g.2.1]
theorem counted_three {c : CompV} (h : Wh c) (hk : c.kind = 3) : (⟨c.kind, (sz c : Int), c.text⟩ : CompV) = c := by
  obtain ⟨a, b, t⟩ := c
  simp only at hk
  rcases h.cases with g | g | g
  · simp only at g; omega
  · rw [sz_not (by simp only; omega)]
    simp only at g ⊢
    rw [show (b.toNat : Int) = b by omega]
  · simp only at g; omega
theorem x_kd {pa la : List CompV} {xk xz : Int} {xt : List Nat} (h : pa = [] ∧ la = [] ∨ ∃ c, pa = [c] ∧ XIs c xk xz xt) : kd (pa ++ la) ≠ 3 := by
  rcases h with ⟨rfl, rfl⟩ | ⟨c, rfl, hc⟩
  · decide
  · exact hc.1
theorem wh_num {d : CompV} (h : Wh d) (hk : d.kind ≠ 2) : d.n = (sz d : Int) := by
  rw [sz_not hk]
  rcases h.cases with g | g | g <;> omega
/-- One cell stays as it is. -/
def keepAt (p : Addr) : Keep where
  r w x := x.cell? p = w.cell? p
  refl _ := rfl
  trans h1 h2 := h2.trans h1
/-- What holds at each label: 0: the next part of the second edit, 1: of the first one, 2: both meet. -/
def CJ (W : World) (o : List CompV) : Nat → Act → World → Prop
  | 0, a, w => ∃ la lb out pa sa sb so xk xz xt yk yn yt, CFr a sa sb so W.heap.size ∧ Wk W o la lb out pa [] sa sb so xk xz xt yk yn yt w ∧ (pa = [] ∧ la = [] ∨ ∃ c, pa = [c] ∧ XIs c xk xz xt)
  | 1, a, w => ∃ la lb out pb sa sb so xk xz xt yk yn yt, CFr a sa sb so W.heap.size ∧ Wk W o la lb out [] pb sa sb so xk xz xt yk yn yt w ∧ (pb = [] ∧ yn = 0 ∨ ∃ d, pb = [d] ∧ YIs d yk yn yt)
  | 2, a, w => ∃ la lb out c d sa sb so xk xz xt yk yn yt, CFr a sa sb so W.heap.size ∧ Wk W o la lb out [c] [d] sa sb so xk xz xt yk yn yt w ∧ XIs c xk xz xt ∧ YIs d yk yn yt
  | _, _, _ => False
def Cμ (l : Nat) (a : Act) : Nat := 4 * (slLen (a.tmps.getD 0 undef) + slLen (a.tmps.getD 1 undef)) + (l + 1)
theorem Cμ_at {l : Nat} {a : Act} {A B : Option Addr} {n m c d : Nat} {so : Value} {g : Nat} (h : CFr a (.slice A n c) (.slice B m d) so g) : Cμ l a = 4 * (n + m) + (l + 1) := by
  unfold Cμ
  rw [h.at0, h.at1]
  rfl
/-- What the walk answers. -/
def ComEnd (o : List CompV) (W : World) (e : Ending) (w' : World) : Prop := ∃ (A : Option Addr) (c : Nat) (out : List CompV), e = .returned (.slice A out.length c) ∧ w'.ownsRow W.heap.size 49 3 (.slice A out.length c) out.length (out.flatMap compCells) ∧ out.map plain = o ∧ (∀ y ∈ out, 0 ≤ y.n ∧ y.n ≤ 4000) ∧ Below W.heap.size W w'

set_option maxHeartbeats 4000000 in
set_option maxRecDepth 100000 in
theorem comWalk_any (A : Option Addr) (ca : Nat) (a : List CompV) (B : Option Addr) (cb : Nat) (b o : List CompV) (hca : a.length ≤ ca) (hcb : b.length ≤ cb) (w : World) (hA : CompsAt w A a) (hB : CompsAt w B b) (hfa : ∀ c ∈ a, Wh c ∧ sz c ≤ 4000) (hfb : ∀ c ∈ b, Wh c ∧ sz c ≤ 4000) (hab : a.length + b.length ≤ 1000000) (hcmp : Cmp a b o) :
    Calls Try.prog 26 #[.slice A a.length ca, .slice B b.length cb] w (ComEnd o w) := by
  have HST : ∀ (w1 : World) (h : w1 = (w.alloc (Obj.cells #[.int .i64 0, .int .i64 0, .string { data := #[] }] 49)).alloc (Obj.cells #[.int .i64 0, .int .i64 0, .string { data := #[] }] 49)),
      Wk w o a b [] [] [] (.slice A a.length ca) (.slice B b.length cb) (.slice none 0 0) 0 0 [] 0 0 [] w1 := by
    rintro w1 rfl
    have h2 := cm_new (w.alloc (Obj.cells #[.int .i64 0, .int .i64 0, .string (bstr [])] 49)) 0 0 []
    rw [show (w.alloc (Obj.cells #[.int .i64 0, .int .i64 0, .string (bstr [])] 49)).heap.size = w.heap.size + 1 by simp] at h2
    exact ⟨⟨A, ca, rfl, hA, hca⟩, ⟨B, cb, rfl, hB, hcb⟩, (cm_new w 0 0 []).alloc _, h2, by simpa using World.ownsRow_nil _ _ _ _, by simp, ((Below.refl _ _).alloc (Nat.le_refl _) _).alloc (by simp) _, hfa, hfb, ⟨o, hcmp, rfl⟩, by have := (cmp_small hcmp hfa hfb).2; omega, fun y hy => by cases hy⟩
  have HSTART := Lib.hid HST
  clear HST hA hB hca hcb hfa hfb hab hcmp
  obtain ⟨g, HG⟩ : ∃ x, Hid (w.heap.size = x) := ⟨_, rfl⟩
  go_enter Try.func26, Try.ntmps26
  go_wp2
  refine wp_scope_chain (CJ w o) Cμ ?hJ rfl rfl rfl ?p2 ?p0 ?p1 ?first
  case hJ =>
    intro j a w h
    match j, h with
    | 0, _ => omega
    | 1, _ => omega
    | 2, _ => omega
    | (n + 3), h => exact h.elim
  case first =>
    intro P1
    have P1' := Lib.hid P1; clear P1
    refine ⟨4 * (a.length + b.length) + 2, ?_⟩
    go_wp2
    go_step3
    rename_i K hK
    refine hK _ _ (down_mono ?_ (P1'.out _ _ ⟨a, b, [], [], _, _, .slice none 0 0, 0, 0, [], 0, 0, [], CFr.mk ⟨rfl, rfl, rfl, rfl, rfl, rfl⟩, HSTART.out _ rfl, .inl ⟨rfl, rfl⟩⟩))
    rw [Cμ_at (A := A) (n := a.length) (c := ca) (B := B) (m := b.length) (d := cb) (so := .slice none 0 0) (g := w.heap.size) (CFr.mk ⟨rfl, rfl, rfl, rfl, rfl, rfl⟩)]
    omega
  case p2 =>
    rintro act w1 ⟨la, lb, out, c, d, sa, sb, so, xk, xz, xt, yk, yn, yt, hf, hw, hx, hy⟩
    obtain ⟨A1, c1, rfl, hA1, hc1⟩ := hw.a
    obtain ⟨B1, d1, rfl, hB1, hd1⟩ := hw.b
    obtain ⟨A3, c3, rfl⟩ := own_slice hw.own
    rw [Cμ_at hf]
    obtain ⟨m, HM⟩ : ∃ m, Hid (m = 4 * (la.length + lb.length) + (2 + 1)) := ⟨_, rfl⟩
    rw [← HM.out]
    obtain ⟨f, rfl⟩ := hf.out
    clear hf
    rw [HG.out]
    obtain ⟨hx1, hx2, hx3, rfl, rfl, rfl⟩ := hx
    obtain ⟨hy1, hy2, hy3, rfl, rfl, rfl⟩ := hy
    have HX1 := Lib.hid hx1
    have HX2 := Lib.hid hx2
    have HY1 := Lib.hid hy1
    have HY2 := Lib.hid hy2
    have GCUT := Lib.hid (fun (w2 : World) (h1 : w2.rowIs w.heap.size 49 3 (cmCells c.kind (sz c : Int) c.text)) (h2 : w2.rowIs (w.heap.size + 1) 49 3 (cmCells d.kind (sz d : Int) d.text)) =>
      comCut_any w.heap.size (w.heap.size + 2) w.heap.size (w.heap.size + 1) c hx2 (sz d) (sz c) (by omega) rfl (by omega) (by have h : c.text.length ≤ 16000 := wh_small hx2 hx3; omega) d.kind d.text w2 h1 h2 (by omega) (Nat.le_refl _) (by omega) (by omega) (by omega))
    obtain ⟨n, HN⟩ : ∃ n, Hid (min (sz c) (sz d) = n) := ⟨_, rfl⟩
    have HN1 : Hid (0 < n ∧ n ≤ sz c ∧ n ≤ sz d ∧ (n = sz c ∨ n = sz d)) := by
      show 0 < n ∧ n ≤ sz c ∧ n ≤ sz d ∧ (n = sz c ∨ n = sz d)
      rw [← HN.out]
      have := hx2.sz
      have := hy2.sz
      omega
    have HCS : Hid (sz c ≤ 4000 ∧ sz d ≤ 4000) := ⟨hx3, hy3⟩
    rw [HN.out] at GCUT
    have HW := Lib.hid hw
    clear hw hA1 hc1 hB1 hd1 hx1 hx2 hx3 hy1 hy2 hy3
    have y0 := (cm_row HW.out.y).1
    have HY0 := Lib.hid y0
    rw [HG.out] at y0
    have GMET := Lib.hid (fun w => comMet_any ⟨c.kind, (n : Int), (piece c n).text⟩ d.kind w)
    simp only at GMET
    obtain ⟨pt, HPT⟩ : ∃ x, Hid ((piece c n).text = x) := ⟨_, rfl⟩
    rw [HPT.out] at GCUT GMET
    obtain ⟨mo, HMO⟩ : ∃ x, Hid (metOf ⟨c.kind, (n : Int), pt⟩ d.kind = x) := ⟨_, rfl⟩
    rw [HMO.out] at GMET
    have e0 : ∀ e : ExtK (keepAt ⟨w.heap.size + 1, 0, none⟩) w1.drew, e.val.cell? ⟨g + 1, 0, none⟩ = some (.int .i64 d.kind) := fun e => by rw [← HG.out]; exact e.property.trans HY0.out
    clear y0
    go_wp2_with fail
    refine wp_region_held_lit (keepAt ⟨w.heap.size + 1, 0, none⟩) [(0, true), (2, true), (3, true), (1, false), (4, false), (5, false), (6, true)] (by kernel_rfl) (by kernel_rfl) (fun c a d v w h => down_quiet c a d v w h) ?_
    simp only [picked, List.map_cons, List.map_nil, List.getElem?_cons_succ, List.getElem?_cons_zero, Option.getD_some]
    repeat (refine wpH_quiet (by rfl) (fun K hK => ?_); go_big_quiet_op; refine hK _ ?_; clear hK K)
    clear e0
    refine wpH_one (by rfl) (fun K hK => ?_)
    go_simp
    rw [← HG.out]
    refine (GCUT.out w1.drew HW.out.x HW.out.y).mono ?_
    rintro e w2 ⟨rfl, hgx, hgy, hmid⟩
    refine hK _ _ ((cm_row hgy).1.trans (show some _ = _ from HY0.out.symm)) ?_
    clear hK K
    have HGX := Lib.hid hgx
    have HGY := Lib.hid hgy
    have HMID := Lib.hid hmid
    clear hgx hgy hmid
    refine wpH_one (by rfl) (fun K hK => ?_)
    go_simp
    refine (GMET.out w2).mono ?_
    rintro e w3 ⟨A4, c4, rfl, hA4, hnil, hb3⟩
    refine hK _ _ (hb3.cell (p := ⟨w.heap.size + 1, 0, none⟩) HGY.out.lt) ?_
    clear hK K
    have HA4 := Lib.hid hA4
    have HNIL := Lib.hid hnil
    have HB3 := Lib.hid hb3
    clear hA4 hnil hb3
    have HOWN : Hid (w3.ownsRow (w.heap.size + 2) 49 3 (.slice A3 out.length c3) out.length (out.flatMap compCells)) := own_below (HMID.out.own HW.out.own (Nat.le_refl _)) HB3.out
    have HUP : Hid (w.heap.size + 2 ≤ w3.heap.size) := Nat.le_trans HW.out.up (Nat.le_trans HMID.out.size HB3.out.size)
    have HML : Hid (mo.length ≤ 1) := by
      show mo.length ≤ 1
      rw [← HMO.out]
      unfold metOf
      split
      · simp
      · split <;> simp
    refine wpH_one (by rfl) (fun K hK => ?_)
    refine wp_pushC (.tmp 43) (.tmp 47) rfl (w.heap.size + 2) (.slice A3 out.length c3) out mo rfl HOWN.out HUP.out A4 c4 rfl HA4.out HNIL.out (by have := HW.out.len; have := HML.out; omega) ?_
    intro out' A5 c5 w4 hout hown hb4
    refine hK _ _ (hb4.cell (p := ⟨w.heap.size + 1, 0, none⟩) (by show w.heap.size + 1 < w.heap.size + 2; omega)) ?_
    clear hK K
    simp only [Act.put, List.setIfInBounds_toArray, List.set_cons_zero, List.set_cons_succ]
    repeat (refine wpH_quiet (by rfl) (fun K hK => ?_); go_big_quiet_op; refine hK _ ?_; clear hK K)
    refine wpH_nil ?_
    have hrx := (HGX.out.of_block (HB3.out.block _ HGX.out.lt)).of_block (hb4.block _ (by omega))
    have hry := (HGY.out.of_block (HB3.out.block _ HGY.out.lt)).of_block (hb4.block _ (by omega))
    have HRX := Lib.hid hrx
    have HRY := Lib.hid hry
    have HOW4 := Lib.hid hown
    have HUP4 : Hid (w.heap.size + 2 ≤ w4.heap.size) := Nat.le_trans HUP.out hb4.size
    have HBE4 : Hid (Below w.heap.size w w4) := ((HMID.out.below HW.out.bel.drew (Nat.le_refl _) (by show w.heap.size ≤ w1.heap.size; have := HW.out.up; omega)).trans (HB3.out.mono (Nat.le_trans (Nat.le_trans (by omega) HW.out.up) HMID.out.size))).trans (hb4.mono (by omega))
    have HREST : Hid (∃ r, Cmp (chop c la n) (chop d lb n) r ∧ o = out'.map plain ++ r) := by
      obtain ⟨r, h1, h2⟩ := HW.out.rest
      obtain ⟨c', a', r', h3, h4, h5⟩ := cmp_both (d := d) (a := c :: la) (b := lb) h1 HX1.out HY1.out
      injection h3 with h3 h3'
      subst h3 h3'
      rw [HN.out] at h4 h5
      refine ⟨r', h5, ?_⟩
      have hmo : mo.map plain = (if d.kind = 1 then [piece c n] else if c.kind = 1 then [piece d n] else []) := by
        rw [← HMO.out, metOf]
        have hkd : d.kind = 1 ∨ d.kind = 3 := by rcases HY2.out.cases with g | g | g <;> first | exact .inl g.1 | exact .inr g.1 | exact absurd g.1 HY1.out
        have hkc : c.kind = 1 ∨ c.kind = 2 := by rcases HX2.out.cases with g | g | g <;> first | exact .inl g.1 | exact .inr g.1 | exact absurd g.1 HX1.out
        rcases hkd with e | e
        · rw [if_pos e, if_pos e, List.map_singleton, ← HPT.out]
          rcases hkc with k | k
          · rw [plain, if_neg (by simp only; omega), piece, if_neg (by omega)]
          · rw [plain, if_pos k, piece, if_pos k]
        · have e1 : ¬ d.kind = 1 := by omega
          rcases hkc with k | k
          · rw [if_neg e1, if_neg e1, if_pos k, if_pos k, List.map_singleton, plain, if_neg (by simp), piece, if_neg HY1.out, e]
          · have k1 : ¬ c.kind = 1 := by omega
            rw [if_neg e1, if_neg e1, if_neg k1, if_neg k1]; rfl
      rw [h2, h4, hout, List.map_append, List.append_assoc, hmo]
    have HFI : Hid (∀ y ∈ out', 0 ≤ y.n ∧ y.n ≤ 4000) := by
      intro y hy
      rw [hout] at hy
      rcases List.mem_append.1 hy with hy | hy
      · exact HW.out.fit y hy
      · have hn : 0 ≤ (n : Int) ∧ (n : Int) ≤ 4000 := by have := HN1.out; have := HCS.out; omega
        rw [← HMO.out, metOf] at hy
        split at hy
        · rw [List.mem_singleton.1 hy]; exact hn
        · split at hy
          · rw [List.mem_singleton.1 hy]; exact hn
          · cases hy
    clear hrx hry hown hb4 hout
    have z0 := (cm_row HRX.out).2.1
    by_cases hz : n = sz c
    · have q0 : (((sz c - n : Nat) : Int) == 0) = true := by rw [hz]; simp
      have HCH : Hid (chop c la n = la) := if_pos hz
      have HYS : ∃ pb, Hid (chop d lb n = pb ++ lb) ∧ Hid (pb = [] ∧ ((sz d - n : Nat) : Int) = 0 ∨ ∃ d', pb = [d'] ∧ YIs d' d.kind ((sz d - n : Nat) : Int) d.text) := by
        by_cases hd : n = sz d
        · exact ⟨[], if_pos hd, .inl ⟨rfl, by omega⟩⟩
        · have hlt : n < sz d := by have := HN1.out; omega
          have hcw := cut_wh HY2.out hlt
          refine ⟨[cut d n], if_neg hd, .inr ⟨_, rfl, by rw [cut_kind]; exact HY1.out, hcw.1, by rw [hcw.2]; have := HCS.out; omega, (cut_kind d n).symm, by rw [hcw.2], ?_⟩⟩
          rw [cut, if_neg HY1.out]
          rcases HY2.out.cases with g | g | g
          · exact g.2.2
          · exact g.2.2
          · exact absurd g.1 HY1.out
      obtain ⟨pb, HCD, HPB⟩ := HYS
      have HWZ : Hid (Wk w o la lb out' [] pb (.slice A1 la.length c1) (.slice B1 lb.length d1) (.slice A5 out'.length c5) c.kind ((sz c - n : Nat) : Int) (leftT c n) d.kind ((sz d - n : Nat) : Int) d.text w4) :=
        ⟨HW.out.a, HW.out.b, HRX.out, HRY.out, HOW4.out, HUP4.out, HBE4.out, HW.out.fa, HW.out.fb, by have h := HREST.out; rw [HCH.out, HCD.out] at h; exact h, HW.out.ol, HFI.out⟩
      clear hz
      go_wp2
      go_step3
      rw [then_goto, down_goto, Cμ_at (A := A1) (n := la.length) (c := c1) (B := B1) (m := lb.length) (d := d1) (so := .slice A5 out'.length c5) (g := w.heap.size) (CFr.mk ⟨rfl, rfl, rfl, rfl, rfl, rfl⟩)]
      exact ⟨⟨la, lb, out', pb, _, _, _, _, _, _, _, _, _, CFr.mk ⟨rfl, rfl, rfl, rfl, rfl, rfl⟩, HWZ.out, HPB.out⟩, by have := HM.out; omega⟩
    · have q0 : (((sz c - n : Nat) : Int) == 0) = false := beq_eq_false_iff_ne.2 (by have := HN1.out; omega)
      have hd : n = sz d := by have := HN1.out; omega
      have hlt : n < sz c := by have := HN1.out; omega
      have hcw := cut_wh HX2.out hlt
      have HXI : Hid (XIs (cut c n) c.kind ((sz c - n : Nat) : Int) (leftT c n)) := by
        refine ⟨by rw [cut_kind]; exact HX1.out, hcw.1, by rw [hcw.2]; have := HCS.out; omega, (cut_kind c n).symm, by rw [hcw.2], ?_⟩
        rw [leftT, cut]
        split
        · rfl
        · rcases HX2.out.cases with g | g | g
          · exact g.2.2
          · exact g.2.2
          · exact absurd g.1 ‹_›
      have HWZ : Hid (Wk w o la lb out' [cut c n] [] (.slice A1 la.length c1) (.slice B1 lb.length d1) (.slice A5 out'.length c5) c.kind ((sz c - n : Nat) : Int) (leftT c n) d.kind ((sz d - n : Nat) : Int) d.text w4) :=
        ⟨HW.out.a, HW.out.b, HRX.out, HRY.out, HOW4.out, HUP4.out, HBE4.out, HW.out.fa, HW.out.fb, by have h := HREST.out; rw [chop, chop, if_neg hz, if_pos hd] at h; exact h, HW.out.ol, HFI.out⟩
      clear hz hd hlt hcw
      go_wp2
      go_step3
      rw [down_goto, Cμ_at (A := A1) (n := la.length) (c := c1) (B := B1) (m := lb.length) (d := d1) (so := .slice A5 out'.length c5) (g := w.heap.size) (CFr.mk ⟨rfl, rfl, rfl, rfl, rfl, rfl⟩)]
      exact ⟨⟨la, lb, out', [cut c n], _, _, _, _, _, _, _, _, _, CFr.mk ⟨rfl, rfl, rfl, rfl, rfl, rfl⟩, HWZ.out, .inr ⟨_, rfl, HXI.out⟩⟩, by have := HM.out; omega⟩
  case p0 =>
    intro P2
    have P2' := Lib.hid P2; clear P2
    rintro act w1 ⟨la, lb, out, pa, sa, sb, so, xk, xz, xt, yk, yn, yt, hf, hw, hx⟩
    obtain ⟨A1, c1, rfl, hA1, hc1⟩ := hw.a
    obtain ⟨B1, d1, rfl, hB1, hd1⟩ := hw.b
    obtain ⟨A3, c3, rfl⟩ := own_slice hw.own
    rw [Cμ_at hf]
    obtain ⟨m, HM⟩ : ∃ m, Hid (m = 4 * (la.length + lb.length) + (0 + 1)) := ⟨_, rfl⟩
    rw [← HM.out]
    obtain ⟨f, rfl⟩ := hf.out
    clear hf
    rw [HG.out]
    have HW := Lib.hid hw
    have HX := Lib.hid hx
    clear hw hx hA1 hc1
    cases lb with
    | nil =>
      have HE : Hid (out.map plain = o) := by
        obtain ⟨r, h1, h2⟩ := HW.out.rest
        obtain ⟨_, rfl⟩ := cmp_end h1 (x_kd HX.out)
        rw [List.append_nil] at h2
        exact h2.symm
      clear hB1 hd1
      go_wp2
      rw [down_ret]
      go_ret
      exact ⟨A3, c3, out, rfl, own_base HW.out.own (by omega), HE.out, HW.out.fit, HW.out.bel⟩
    | cons d lb =>
      obtain ⟨b1, off, B2, rfl, hb1, y0, y1, y2, hsl, hB2, hd2⟩ := comps_next hB1 hd1
      rw [← HW.out.bel.cell (p := ⟨b1, off, none⟩) hb1] at y0
      rw [← HW.out.bel.cell (p := ⟨b1, off + 1, none⟩) hb1] at y1
      rw [← HW.out.bel.cell (p := ⟨b1, off + 2, none⟩) hb1] at y2
      have HB2 := Lib.hid hB2
      have HD2 := Lib.hid hd2
      have HB1 := Lib.hid hb1
      clear hB1 hd1 hB2 hd2 hb1
      rw [List.length_cons] at HM ⊢
      have n1 : (((lb.length + 1 : Nat) : Int) == 0) = false := beq_eq_false_iff_ne.2 (by omega)
      have n2 : ((lb.length : Int) + 1 == 0) = false := beq_eq_false_iff_ne.2 (by omega)
      go_wp2_with fail
      have HKB : Hid (b1 ≠ g + 1) := by show b1 ≠ g + 1; have := HB1.out; have := HG.out; omega
      have e0 : ∀ e : ExtK (keepBlocks [b1]) w1.drew, e.val.cell? ⟨b1, off, none⟩ = some (.int .i64 d.kind) := fun e => (cell_of_block (e.property.2 b1 (by simp)) _).trans y0
      have e1 : ∀ e : ExtK (keepBlocks [b1]) w1.drew, e.val.cell? ⟨b1, off + 1, none⟩ = some (.int .i64 d.n) := fun e => (cell_of_block (e.property.2 b1 (by simp)) _).trans y1
      have e2 : ∀ e : ExtK (keepBlocks [b1]) w1.drew, e.val.cell? ⟨b1, off + 2, none⟩ = some (.string (bstr d.text)) := fun e => (cell_of_block (e.property.2 b1 (by simp)) _).trans y2
      refine wp_region_held_lit (keepBlocks [b1]) [(0, true), (1, true), (2, true), (3, true), (4, true), (5, false), (6, true)] (by kernel_rfl) (by kernel_rfl) (fun c a d v w h => down_quiet c a d v w h) ?_
      simp only [picked, List.map_cons, List.map_nil, List.getElem?_cons_succ, List.getElem?_cons_zero, Option.getD_some]
      repeat (refine wpH_quiet (by rfl) (fun K hK => ?_); go_big_quiet_op; refine hK _ ?_; clear hK K)
      clear e0 e1 e2 y0 y1 y2 hsl n1 n2
      have HWY := Lib.hid (HW.out.loadY HB2.out HD2.out).drew
      obtain ⟨a0, a1, a2, a3, a4, a5, _⟩ := three HW.out.y (.int .i64 d.kind) (.int .i64 d.n) (.string (bstr d.text))
      rw [HG.out] at a0 a1 a2 a3 a4 a5
      have HMID : Hid (Mid (g + 1) (g + 2) w1 (((w1.setCell ⟨g + 1, 0, none⟩ (.int .i64 d.kind)).setCell ⟨g + 1, 1, none⟩ (.int .i64 d.n)).setCell ⟨g + 1, 2, none⟩ (.string (bstr d.text))).drew) :=
        ((((Mid.refl _ _ _).set _ _ _ (by omega) (by omega)).set _ _ _ (by omega) (by omega)).set _ _ _ (by omega) (by omega)).drew
      rw [HG.out] at HWY
      refine wpH_one (by rfl) (fun K hK => ?_)
      go_simp
      clear a0 a1 a2 a3 a4 a5
      have HBW : Hid (b1 < w1.heap.size) := by show b1 < w1.heap.size; have := HW.out.up; have := HB1.out; omega
      refine hK _ _ (keep_one HMID.out.size (HMID.out.block b1 HBW.out (by have := HB1.out; have := HG.out; omega))) ?_
      clear hK K HMID HBW
      generalize World.drew _ = w2 at HWY ⊢
      repeat (refine wpH_quiet (by rfl) (fun K hK => ?_); go_big_quiet_op; refine hK _ ?_; clear hK K)
      refine wpH_nil ?_
      obtain ⟨y0, y1, y2⟩ := cm_row HWY.out.y
      rw [HG.out] at y0 y1 y2
      have HDW : Hid (Wh d) := (HW.out.fb d (by simp)).1
      have HDS : Hid (sz d ≤ 4000) := (HW.out.fb d (by simp)).2
      by_cases hk2 : d.kind = 2
      · have g2 : (d.kind == 2) = true := beq_iff_eq.2 hk2
        have HDN : Hid (0 ≤ d.n ∧ d.n ≤ 4000) := by show 0 ≤ d.n ∧ d.n ≤ 4000; rcases HDW.out.cases with g | g | g <;> omega
        have HPL : Hid (plain d = d) := plain_two HDW.out hk2
        have HK2 := Lib.hid hk2
        clear hk2
        go_wp2_with (at_builtin
                     go_loud (refine wpList_pushB rfl (.tmp 39) (.tmp 41) rfl (w.heap.size + 2) (.slice A3 out.length c3) out d rfl HWY.out.own HWY.out.up rfl (by have := HW.out.len; omega) ?_)
                     intro out' A5 c5 w5 hout hown hbel
                     have HOUT := Lib.hid hout
                     go_loud (have HWP := Lib.hid (HWY.out.pushed (pa' := pa) (pb' := []) hout hown hbel HDN.out (fun r hr => by
                       obtain ⟨r', h1, h2⟩ := cmp_puts hr (x_kd HX.out) HK2.out
                       exact ⟨r', by rw [HPL.out]; exact h1, h2⟩)))
                     clear hout hown hbel)
        go_step3
        rw [then_goto, down_goto, Cμ_at (A := A1) (n := la.length) (c := c1) (B := B2) (m := lb.length) (d := d1 - 1) (so := .slice A5 out'.length c5) (g := g) (CFr.mk ⟨rfl, rfl, rfl, rfl, rfl, rfl⟩)]
        exact ⟨⟨la, lb, out', pa, _, _, _, _, _, _, _, _, _, HG.out ▸ CFr.mk ⟨rfl, rfl, rfl, rfl, rfl, rfl⟩, HWP.out, HX.out⟩, by have := HM.out; omega⟩
      · have g2 : (d.kind == 2) = false := beq_eq_false_iff_ne.2 hk2
        have HC : ∃ c, pa = [c] ∧ XIs c xk xz xt := by
          rcases HX.out with ⟨rfl, rfl⟩ | h
          · obtain ⟨r, h1, _⟩ := HWY.out.rest
            obtain ⟨c, a', r', h3, _⟩ := cmp_both h1 (by decide) hk2
            cases h3
          · exact h
        obtain ⟨c, rfl, hc⟩ := HC
        have HXI := Lib.hid hc
        have HYI : Hid (YIs d d.kind d.n d.text) := ⟨hk2, HDW.out, HDS.out, rfl, wh_num HDW.out hk2, rfl⟩
        clear hc hk2 HX
        go_wp2_with fail
        go_step3
        rename_i K hK
        refine hK _ _ (down_mono ?_ (P2'.out _ _ ⟨la, lb, out, c, d, _, _, _, _, _, _, _, _, _, HG.out ▸ CFr.mk ⟨rfl, rfl, rfl, rfl, rfl, rfl⟩, HWY.out, HXI.out, HYI.out⟩))
        rw [Cμ_at (A := A1) (n := la.length) (c := c1) (B := B2) (m := lb.length) (d := d1 - 1) (so := .slice A3 out.length c3) (g := g) (CFr.mk ⟨rfl, rfl, rfl, rfl, rfl, rfl⟩)]
        have := HM.out
        omega
  case p1 =>
    intro P0
    have P0' := Lib.hid P0; clear P0
    rintro act w1 ⟨la, lb, out, pb, sa, sb, so, xk, xz, xt, yk, yn, yt, hf, hw, hy⟩
    obtain ⟨A1, c1, rfl, hA1, hc1⟩ := hw.a
    obtain ⟨B1, d1, rfl, hB1, hd1⟩ := hw.b
    obtain ⟨A3, c3, rfl⟩ := own_slice hw.own
    rw [Cμ_at hf]
    obtain ⟨m, HM⟩ : ∃ m, Hid (m = 4 * (la.length + lb.length) + (1 + 1)) := ⟨_, rfl⟩
    rw [← HM.out]
    obtain ⟨f, rfl⟩ := hf.out
    clear hf
    rw [HG.out]
    have HW := Lib.hid hw
    have HY := Lib.hid hy
    clear hw hy hB1 hd1
    cases la with
    | nil =>
      have HPB : Hid (pb = []) := by
        rcases HY.out with ⟨rfl, _⟩ | ⟨d, rfl, hd⟩
        · rfl
        · obtain ⟨r, h1, _⟩ := HW.out.rest
          obtain ⟨c, a', r', h3, _⟩ := cmp_both h1 (by decide) hd.1
          cases h3
      have HW2 := HW.out
      rw [HPB.out] at HW2
      have HWZ := Lib.hid HW2
      clear hA1 hc1 HW2
      go_wp2
      go_step3
      rw [then_goto, down_goto, Cμ_at (A := A1) (n := 0) (c := c1) (B := B1) (m := lb.length) (d := d1) (so := .slice A3 out.length c3) (g := g) (CFr.mk ⟨rfl, rfl, rfl, rfl, rfl, rfl⟩)]
      exact ⟨⟨[], lb, out, [], _, _, _, _, _, _, _, _, _, HG.out ▸ CFr.mk ⟨rfl, rfl, rfl, rfl, rfl, rfl⟩, HWZ.out, .inl ⟨rfl, rfl⟩⟩, by have := HM.out; simp at this; omega⟩
    | cons c la =>
      obtain ⟨b1, off, B2, rfl, hb1, y0, y1, y2, hsl, hB2, hd2⟩ := comps_next hA1 hc1
      rw [← HW.out.bel.cell (p := ⟨b1, off, none⟩) hb1] at y0
      rw [← HW.out.bel.cell (p := ⟨b1, off + 1, none⟩) hb1] at y1
      rw [← HW.out.bel.cell (p := ⟨b1, off + 2, none⟩) hb1] at y2
      have HB2 := Lib.hid hB2
      have HD2 := Lib.hid hd2
      have HB1 := Lib.hid hb1
      have HCW : Hid (Wh c) := (HW.out.fa c (by simp)).1
      have HCS : Hid (sz c ≤ 4000) := (HW.out.fa c (by simp)).2
      have GC := Lib.hid (fun w => comCounted_any c HCW.out (by have h : c.text.length ≤ 16000 := wh_small HCW.out HCS.out; omega) w)
      clear hA1 hc1 hB2 hd2 hb1
      rw [List.length_cons] at HM ⊢
      have n1 : (((la.length + 1 : Nat) : Int) == 0) = false := beq_eq_false_iff_ne.2 (by omega)
      have n2 : ((la.length : Int) + 1 == 0) = false := beq_eq_false_iff_ne.2 (by omega)
      obtain ⟨z, HZ⟩ : ∃ z, Hid (sz c = z) := ⟨_, rfl⟩
      go_wp2_with fail
      have HKB : Hid (b1 ≠ g) := by show b1 ≠ g; have := HB1.out; have := HG.out; omega
      have e0 : ∀ e : ExtK (keepBlocks [b1]) w1.drew, e.val.cell? ⟨b1, off, none⟩ = some (.int .i64 c.kind) := fun e => (cell_of_block (e.property.2 b1 (by simp)) _).trans y0
      have e1 : ∀ e : ExtK (keepBlocks [b1]) w1.drew, e.val.cell? ⟨b1, off + 1, none⟩ = some (.int .i64 c.n) := fun e => (cell_of_block (e.property.2 b1 (by simp)) _).trans y1
      have e2 : ∀ e : ExtK (keepBlocks [b1]) w1.drew, e.val.cell? ⟨b1, off + 2, none⟩ = some (.string (bstr c.text)) := fun e => (cell_of_block (e.property.2 b1 (by simp)) _).trans y2
      refine wp_region_held_lit (keepBlocks [b1]) [(0, true), (1, true), (2, true), (4, true), (5, true), (3, false), (6, false), (7, true)] (by kernel_rfl) (by kernel_rfl) (fun c a d v w h => down_quiet c a d v w h) ?_
      simp only [picked, List.map_cons, List.map_nil, List.getElem?_cons_succ, List.getElem?_cons_zero, Option.getD_some]
      repeat (refine wpH_quiet (by rfl) (fun K hK => ?_); go_big_quiet_op; refine hK _ ?_; clear hK K)
      clear e0 e1 e2 y0 y1 y2 hsl n1 n2
      have HBW : Hid (b1 < w1.heap.size) := by show b1 < w1.heap.size; have := HW.out.up; have := HB1.out; omega
      refine wpH_one (by rfl) (fun K hK => ?_)
      go_simp
      refine (GC.out w1.drew).mono ?_
      rintro e w2 ⟨rfl, hb2⟩
      refine hK _ _ (keep_one hb2.size (hb2.block b1 HBW.out)) ?_
      clear hK K
      have HW2 := Lib.hid (HW.out.drew.below hb2)
      have HBW2 : Hid (b1 < w2.heap.size) := Nat.lt_of_lt_of_le HBW.out hb2.size
      clear hb2
      have HWX := Lib.hid (HW2.out.loadX HB2.out HD2.out)
      obtain ⟨a0, a1, a2, a3, a4, a5, _⟩ := three HW2.out.x (.int .i64 c.kind) (.int .i64 (sz c : Int)) (.string (bstr c.text))
      simp only [HG.out, HZ.out] at a0 a1 a2 a3 a4 a5
      have HMID : Hid (Mid g (g + 1) w2 (((w2.setCell ⟨g, 0, none⟩ (.int .i64 c.kind)).setCell ⟨g, 1, none⟩ (.int .i64 (z : Int))).setCell ⟨g, 2, none⟩ (.string (bstr c.text)))) :=
        (((Mid.refl _ _ _).set _ _ _ (by omega) (by omega)).set _ _ _ (by omega) (by omega)).set _ _ _ (by omega) (by omega)
      rw [HG.out, HZ.out] at HWX
      rw [HZ.out]
      refine wpH_one (by rfl) (fun K hK => ?_)
      go_simp
      clear a0 a1 a2 a3 a4 a5
      refine hK _ _ (keep_one HMID.out.size (HMID.out.block b1 HBW2.out (by have := HB1.out; have := HG.out; omega))) ?_
      clear hK K HMID HBW HBW2 HW2
      generalize ((w2.setCell ⟨g, 0, none⟩ (.int .i64 c.kind)).setCell ⟨g, 1, none⟩ (.int .i64 (z : Int))).setCell ⟨g, 2, none⟩ (.string (bstr c.text)) = w3 at HWX ⊢
      repeat (refine wpH_quiet (by rfl) (fun K hK => ?_); go_big_quiet_op; refine hK _ ?_; clear hK K)
      refine wpH_nil ?_
      obtain ⟨y0, y1, y2⟩ := cm_row HWX.out.x
      rw [HG.out] at y0 y1 y2
      by_cases hk3 : c.kind = 3
      · have g2 : (c.kind == 3) = true := beq_iff_eq.2 hk3
        have HCC : Hid ((⟨c.kind, (z : Int), c.text⟩ : CompV) = c) := by show _ = _; rw [← HZ.out]; exact counted_three HCW.out hk3
        have HPL : Hid (plain c = c) := if_neg (by omega)
        have HK3 := Lib.hid hk3
        clear hk3
        go_wp2_with (at_builtin
                     refine wpList_pushB rfl (.tmp 20) (.tmp 22) rfl (w.heap.size + 2) (.slice A3 out.length c3) out ⟨c.kind, (z : Int), c.text⟩ rfl HWX.out.own HWX.out.up rfl (by have := HW.out.len; omega) ?_
                     intro out' A5 c5 w5 hout hown hbel
                     have HOUT := Lib.hid hout
                     have HWP := Lib.hid (HWX.out.pushed (pa' := []) (pb' := pb) hout hown hbel (by show 0 ≤ (z : Int) ∧ (z : Int) ≤ 4000; have := HCS.out; have := HZ.out; omega) (fun r hr => by
                       obtain ⟨r', h1, h2⟩ := cmp_gone hr HK3.out
                       exact ⟨r', by rw [HCC.out, HPL.out]; exact h1, h2⟩))
                     clear hout hown hbel)
        go_step3
        rw [then_goto, down_goto, Cμ_at (A := B2) (n := la.length) (c := c1 - 1) (B := B1) (m := lb.length) (d := d1) (so := .slice A5 out'.length c5) (g := g) (CFr.mk ⟨rfl, rfl, rfl, rfl, rfl, rfl⟩)]
        exact ⟨⟨la, lb, out', pb, _, _, _, _, _, _, _, _, _, HG.out ▸ CFr.mk ⟨rfl, rfl, rfl, rfl, rfl, rfl⟩, HWP.out, HY.out⟩, by have := HM.out; omega⟩
      · have g2 : (c.kind == 3) = false := beq_eq_false_iff_ne.2 hk3
        have HXI : Hid (XIs c c.kind (z : Int) c.text) := ⟨hk3, HCW.out, HCS.out, rfl, by rw [HZ.out], rfl⟩
        have HY2 := HY.out
        clear hk3
        rcases HY2 with ⟨rfl, rfl⟩ | ⟨d, rfl, hd⟩
        · have z1 := (cm_row HWX.out.y).2.1
          rw [HG.out] at z1
          go_wp2_with fail
          go_step3
          rename_i K hK
          refine hK _ _ (down_mono ?_ (P0'.out _ _ ⟨la, lb, out, [c], _, _, _, _, _, _, _, _, _, HG.out ▸ CFr.mk ⟨rfl, rfl, rfl, rfl, rfl, rfl⟩, HWX.out, .inr ⟨c, rfl, HXI.out⟩⟩))
          rw [Cμ_at (A := B2) (n := la.length) (c := c1 - 1) (B := B1) (m := lb.length) (d := d1) (so := .slice A3 out.length c3) (g := g) (CFr.mk ⟨rfl, rfl, rfl, rfl, rfl, rfl⟩)]
          have := HM.out
          omega
        · have z1 := (cm_row HWX.out.y).2.1
          rw [HG.out] at z1
          have hn : 0 < yn := by have := hd.2.1.sz; have := hd.2.2.2.2.1; omega
          have HYI := Lib.hid hd
          clear hd
          go_wp2_with fail
          go_step3
          rw [then_goto, down_goto, Cμ_at (A := B2) (n := la.length) (c := c1 - 1) (B := B1) (m := lb.length) (d := d1) (so := .slice A3 out.length c3) (g := g) (CFr.mk ⟨rfl, rfl, rfl, rfl, rfl, rfl⟩)]
          exact ⟨⟨la, lb, out, c, d, _, _, _, _, _, _, _, _, _, HG.out ▸ CFr.mk ⟨rfl, rfl, rfl, rfl, rfl, rfl⟩, HWX.out, HXI.out, HYI.out⟩, by have := HM.out; omega⟩
end Go.Proofs.Ytoicgmfcbmjchaa
