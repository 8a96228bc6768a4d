/- Two walks of the document's own, side by side: what is next, how much of it is left, so much of it. Conditions: both are checked edits. (Merged of 3 texts.) -/
import Derived.Test.YtnadhpajelkngaaKRef
import Derived.Test.YtnadhpajelkngaaKPair
/- append of one part, just laid, onto a row of parts that lies behind a place of the memory: told of that place alone. Condition: no more than 2^40 parts. -/
namespace Go.Proofs.Ytnadhpajelkngaa
open Go.RowKit Go.Deep

theorem wpList_pushB {ops : Array Oper} {rest : List Oper} {o : Oper} {a : Act} {w : World} {Q : Exit → Act → World → Prop} (hgd : o.guard = none) (s x : Operand)
    (ho : o.op = .call { callee := .builtin .append, args := #[s, x], argTypes := #[22, 22] })
    (base : Nat) (v : Value) (out : List CompV) (cr : CompV) (hs : a.eval s = v) (hown : w.ownsRow base 54 3 v out.length (out.flatMap compCells)) (hsz : base ≤ w.heap.size)
    (hx : a.eval x = .slice (some ⟨w.heap.size, 0, none⟩) 1 1) (hlen : out.length ≤ 1099511627776)
    (h : ∀ out' A' c' w', out' = out ++ [cr] → w'.ownsRow base 54 3 (.slice A' out'.length c') out'.length (out'.flatMap compCells) → Below base w w' → wpList Try.prog ops Q rest (a.put o.dst (.slice A' out'.length c')) w') :
    wpList Try.prog ops Q (o :: rest) a (w.alloc (.cells #[.int .i64 cr.kind, .int .i64 cr.n, .string (bstr cr.text)] 54)) := by
  obtain ⟨i0, hi0, hz0, hz1, hz2⟩ := info_parts part_info
  refine wpList_append_own_wide _ hgd s x 22 ho base 54 i0 (.agg #[.int .i64 0, .int .i64 0, .string { data := #[] }]) 3 32 Try.underlying22 hi0 hz0 hz1 hz2 rfl (by omega) v out.length (out.flatMap compCells) hs (hown.alloc _) ⟨w.heap.size, 0, none⟩ 1 1 (compCells cr) hx rfl ?_ ?_ (by simp only [maxLen]; omega) (by omega) (by simp; omega) ?_
  · intro j u hj
    rw [Go.WideShapes.add_plain, Nat.zero_add, cell_of_row _ _ _ _ _ _ (heap_alloc_new w _)]
    simpa [compCells] using hj
  · intro u hu; simp [compCells] at hu; rcases hu with rfl | rfl | rfl <;> rfl
  intro v' w' hown' hgr _
  have e : out.flatMap compCells ++ compCells cr = (out ++ [cr]).flatMap compCells := by simp
  have hown2 : w'.ownsRow base 54 3 v' (out ++ [cr]).length ((out ++ [cr]).flatMap compCells) := by
    rw [← e, List.length_append]
    exact hown'
  obtain ⟨A', c', rfl⟩ := own_slice hown2
  exact h _ A' c' w' rfl hown2 (((Below.refl base w).alloc hsz _).grown hgr (by simp; omega) (fun k hk => (hown.lt k hk).1))
end Go.Proofs.Ytnadhpajelkngaa

/- Two walks of the document's own, side by side, and the parts made so far. No condition. -/
namespace Go.Proofs.Ytnadhpajelkngaa
open Go.RowKit Go.Deep

/-- What a cell of a whole number holds. -/
def cellN (v : Option Value) : Nat := match v with | some (.int _ x) => x.toNat | _ => 0
/-- How much is left of both, as the memory says. -/
noncomputable def leftOf (a b : List CompV) (gx gy : Nat) (w : World) : Nat :=
  wt (rest a (cellN (w.cell? ⟨gx, 1, none⟩)) (cellN (w.cell? ⟨gx, 2, none⟩))) + wt (rest b (cellN (w.cell? ⟨gy, 1, none⟩)) (cellN (w.cell? ⟨gy, 2, none⟩)))
theorem WalkAt.says {B g : Nat} {l : List CompV} {i n : Nat} {w : World} (h : WalkAt B g l i n w) : cellN (w.cell? ⟨g, 1, none⟩) = i ∧ cellN (w.cell? ⟨g, 2, none⟩) = n := by
  obtain ⟨A, c, h1, _⟩ := h
  have c1 : w.cell? ⟨g, 1, none⟩ = some (.int .i64 (i : Int)) := (h1.cell (i := 1) (by omega)).trans rfl
  have c2 : w.cell? ⟨g, 2, none⟩ = some (.int .i64 (n : Int)) := (h1.cell (i := 2) (by omega)).trans rfl
  rw [c1, c2]
  exact ⟨Int.toNat_natCast i, Int.toNat_natCast n⟩
theorem WalkAt.base {B g base : Nat} {l : List CompV} {i n : Nat} {w w' : World} (h : WalkAt B g l i n w) (hb : Below base w w') (hg : g < base) : WalkAt B g l i n w' := by
  obtain ⟨A, c, h1, h2, h3, h4⟩ := h
  refine ⟨A, c, h1.of_block (hb.block g hg), ?_, h3, h4⟩
  rcases h2 with h2 | ⟨b', off', e, hlt, hc⟩
  · exact .inl h2
  · by_cases h0 : 0 < l.length
    · obtain ⟨b, off, hA, hbB⟩ := h3 h0
      have hbb : b' = b := by rw [hA] at e; cases e; rfl
      exact .inr ⟨b', off', e, Nat.lt_of_lt_of_le hlt hb.size, fun j v hj => (cell_of_block (hb.block b' (by omega)) _).trans (hc j v hj)⟩
    · have : l = [] := List.eq_nil_of_length_eq_zero (by omega)
      subst this
      exact .inl rfl
/-- Two walks, and the parts made so far. -/
structure St (B gx gy base : Nat) (a b : List CompV) (w0 : World) (i n j m : Nat) (o : List CompV) (A : Option Addr) (c : Nat) (w : World) : Prop where
  wx : WalkAt B gx a i n w
  wy : WalkAt B gy b j m w
  own : w.ownsRow base 54 3 (.slice A o.length c) o.length (o.flatMap compCells)
  low : Below B w0 w
  bx : gx < base
  by_ : gy < base
  ne : gx ≠ gy
  size : base ≤ w.heap.size
namespace St
variable {B gx gy base : Nat} {a b : List CompV} {w0 w w' : World} {i n j m : Nat} {o : List CompV} {A : Option Addr} {c : Nat}
theorem below (s : St B gx gy base a b w0 i n j m o A c w) (hb : Below w.heap.size w w') : St B gx gy base a b w0 i n j m o A c w' :=
  ⟨s.wx.below hb, s.wy.below hb, own_below s.own hb, s.low.trans (hb.mono (by have := s.wx.ge; have := s.bx; have := s.size; omega)), s.bx, s.by_, s.ne, Nat.le_trans s.size hb.size⟩
theorem left (s : St B gx gy base a b w0 i n j m o A c w) : leftOf a b gx gy w = wt (rest a i n) + wt (rest b j m) := by
  rw [leftOf, s.wx.says.1, s.wx.says.2, s.wy.says.1, s.wy.says.2]
theorem takeX (s : St B gx gy base a b w0 i n j m o A c w) {i' n' : Nat} (hx : WalkAt B gx a i' n' w') (ho : Only gx w w') : St B gx gy base a b w0 i' n' j m o A c w' := by
  have h1 := s.wx.ge; have h2 := s.bx; have h3 := s.size
  exact ⟨hx, s.wy.keep ho s.ne h1, own_only s.own ho s.bx, s.low.trans ⟨ho.os, ho.tape, ho.output, ho.size, fun k hk => ho.block k (by omega) (by omega)⟩, s.bx, s.by_, s.ne, Nat.le_trans s.size ho.size⟩
theorem takeY (s : St B gx gy base a b w0 i n j m o A c w) {j' m' : Nat} (hy : WalkAt B gy b j' m' w') (ho : Only gy w w') : St B gx gy base a b w0 i n j' m' o A c w' := by
  have h1 := s.wy.ge; have h2 := s.by_; have h3 := s.size
  exact ⟨s.wx.keep ho (fun e => s.ne e.symm) h1, hy, own_only s.own ho s.by_, s.low.trans ⟨ho.os, ho.tape, ho.output, ho.size, fun k hk => ho.block k (by omega) (by omega)⟩, s.bx, s.by_, s.ne, Nat.le_trans s.size ho.size⟩
theorem push (s : St B gx gy base a b w0 i n j m o A c w) {o' : List CompV} {A' : Option Addr} {c' : Nat} (h : w'.ownsRow base 54 3 (.slice A' o'.length c') o'.length (o'.flatMap compCells)) (hb : Below base w w') :
    St B gx gy base a b w0 i n j m o' A' c' w' := by
  have h1 := s.wy.ge; have h2 := s.by_
  exact ⟨s.wx.base hb s.bx, s.wy.base hb s.by_, h, s.low.trans (hb.mono (by omega)), s.bx, s.by_, s.ne, Nat.le_trans s.size hb.size⟩
end St
end Go.Proofs.Ytnadhpajelkngaa

/- Two walks of the document's own, side by side: what is next, how much of it is left, so much of it. Conditions: both are checked edits. -/
namespace Go.Proofs.Ytnadhpajelkngaa
open Go.RowKit Go.Deep

/-- What is so of a checked edit in memory. -/
structure EdF (l : List CompV) : Prop where
  wh : ∀ c ∈ l, Wh c
  fine : Fine1 l
  len : l.length ≤ 100
  top : ∀ c ∈ l, sz c ≤ 4000
  all : wt l ≤ 4000
theorem edF_of {l : List CompV} (h : rCheck l = 0) (hf : Fine1 l) : EdF l := by
  have k := ok_of h
  have h1 := wt_in l k.wh
  have h2 := k.base1; have h3 := k.out1
  exact ⟨k.wh, hf, k.len, fun c hc => by have := h1.2 c hc; omega, by have := h1.1; omega⟩
theorem rest_cons {l : List CompV} {i n : Nat} {c : CompV} {r : List CompV} (h : rest l i n = c :: r) : ∃ hi : i < l.length, c = cut l[i] n ∧ r = l.drop (i + 1) := by
  rcases Nat.lt_or_ge i l.length with hi | hi
  · rw [rest_in hi] at h
    injection h with h1 h2
    exact ⟨hi, h1.symm, h2.symm⟩
  · rw [rest_end hi] at h
    cases h
theorem walkKind_rest {B g : Nat} {l : List CompV} (f : EdF l) {i n : Nat} (p : Pos l i n) (w : World) (h : WalkAt B g l i n w) :
    Calls Try.prog 31 #[.pointer (some ⟨g, 0, none⟩)] w fun e w' => e = .returned (.int .i64 (kd (rest l i n))) ∧ Below w.heap.size w w' := by
  rw [rest_kind]
  exact walkKind_any B g l (by have := f.len; omega) i n p.le w h
theorem walkLeft_rest {B g : Nat} {l : List CompV} (f : EdF l) {i n : Nat} (p : Pos l i n) {c : CompV} {r : List CompV} (hr : rest l i n = c :: r) (w : World) (h : WalkAt B g l i n w) :
    Calls Try.prog 33 #[.pointer (some ⟨g, 0, none⟩)] w fun e w' => e = .returned (.int .i64 (sz c : Int)) ∧ Below w.heap.size w w' := by
  obtain ⟨hi, hc, _⟩ := rest_cons hr
  have wc := f.wh _ (List.getElem_mem hi)
  have hn := p.at_ hi
  have hs := (cut_wh wc hn).2
  rw [← hc] at hs
  have hf := f.fine _ (List.getElem_mem hi)
  have hz := sizeOf_sz wc
  have := walkLeft_any B g l (by have := f.len; omega) i n hi hf.1 hf.2 (fun h2 => by rcases wc.cases with g | g | g <;> first | omega | exact g.2.2.2) (by rw [hz]; omega) w h
  rw [hz, show ((sz l[i] : Int) - (n : Int)) = (sz c : Int) by omega] at this
  exact this
theorem walkTake_rest {B g : Nat} {l : List CompV} (f : EdF l) {i n : Nat} (p : Pos l i n) {c : CompV} {r : List CompV} (hr : rest l i n = c :: r) (k : Nat) (h0 : 0 < k) (hk : k ≤ sz c) (w : World) (h : WalkAt B g l i n w) :
    Calls Try.prog 32 #[.pointer (some ⟨g, 0, none⟩), .int .i64 (k : Int)] w fun e w' =>
      e = .returned (.agg #[.int .i64 (piece c k).kind, .int .i64 (piece c k).n, .string (bstr (piece c k).text)]) ∧
      (∃ i' n', rest l i' n' = chop c r k ∧ Pos l i' n' ∧ WalkAt B g l i' n' w') ∧ Only g w w' := by
  obtain ⟨hi, hc, hd⟩ := rest_cons hr
  have wc := f.wh _ (List.getElem_mem hi)
  have hn := p.at_ hi
  have hs := (cut_wh wc hn).2
  rw [← hc] at hs
  have hf := f.fine _ (List.getElem_mem hi)
  have ht := f.top _ (List.getElem_mem hi)
  have hx := rest_next f.wh hi hn h0 (by omega)
  rw [← hc, ← hd] at hx
  have := walkTake_any B g l (by have := f.len; omega) i n k hi wc hf.1 hf.2 (by omega) h0 (by omega) (by omega) w h
  rw [← hc] at this
  exact this.mono fun e w' ⟨h1, h2, h3⟩ => ⟨h1, ⟨_, _, hx.1, hx.2, h2⟩, h3⟩
namespace St
variable {B gx gy base : Nat} {a b : List CompV} {w0 w : World} {i n j m : Nat} {o : List CompV} {A : Option Addr} {c : Nat}
theorem kindX (s : St B gx gy base a b w0 i n j m o A c w) (f : EdF a) (p : Pos a i n) :
    Calls Try.prog 31 #[.pointer (some ⟨gx, 0, none⟩)] w fun e w' => e = .returned (.int .i64 (kd (rest a i n))) ∧ St B gx gy base a b w0 i n j m o A c w' :=
  (walkKind_rest f p w s.wx).mono fun _ _ ⟨h1, h2⟩ => ⟨h1, s.below h2⟩
theorem kindY (s : St B gx gy base a b w0 i n j m o A c w) (f : EdF b) (p : Pos b j m) :
    Calls Try.prog 31 #[.pointer (some ⟨gy, 0, none⟩)] w fun e w' => e = .returned (.int .i64 (kd (rest b j m))) ∧ St B gx gy base a b w0 i n j m o A c w' :=
  (walkKind_rest f p w s.wy).mono fun _ _ ⟨h1, h2⟩ => ⟨h1, s.below h2⟩
theorem leftX (s : St B gx gy base a b w0 i n j m o A c w) (f : EdF a) (p : Pos a i n) {x : CompV} {r : List CompV} (hr : rest a i n = x :: r) :
    Calls Try.prog 33 #[.pointer (some ⟨gx, 0, none⟩)] w fun e w' => e = .returned (.int .i64 (sz x : Int)) ∧ St B gx gy base a b w0 i n j m o A c w' :=
  (walkLeft_rest f p hr w s.wx).mono fun _ _ ⟨h1, h2⟩ => ⟨h1, s.below h2⟩
theorem leftY (s : St B gx gy base a b w0 i n j m o A c w) (f : EdF b) (p : Pos b j m) {x : CompV} {r : List CompV} (hr : rest b j m = x :: r) :
    Calls Try.prog 33 #[.pointer (some ⟨gy, 0, none⟩)] w fun e w' => e = .returned (.int .i64 (sz x : Int)) ∧ St B gx gy base a b w0 i n j m o A c w' :=
  (walkLeft_rest f p hr w s.wy).mono fun _ _ ⟨h1, h2⟩ => ⟨h1, s.below h2⟩
theorem takenX (s : St B gx gy base a b w0 i n j m o A c w) (f : EdF a) (p : Pos a i n) {x : CompV} {r : List CompV} (hr : rest a i n = x :: r) (k : Nat) (h0 : 0 < k) (hk : k ≤ sz x) :
    Calls Try.prog 32 #[.pointer (some ⟨gx, 0, none⟩), .int .i64 (k : Int)] w fun e w' =>
      e = .returned (.agg #[.int .i64 (piece x k).kind, .int .i64 (piece x k).n, .string (bstr (piece x k).text)]) ∧ ∃ i' n', rest a i' n' = chop x r k ∧ Pos a i' n' ∧ St B gx gy base a b w0 i' n' j m o A c w' :=
  (walkTake_rest f p hr k h0 hk w s.wx).mono fun _ _ ⟨h1, ⟨i', n', h2, h3, h4⟩, h5⟩ => ⟨h1, i', n', h2, h3, s.takeX h4 h5⟩
theorem takenY (s : St B gx gy base a b w0 i n j m o A c w) (f : EdF b) (p : Pos b j m) {x : CompV} {r : List CompV} (hr : rest b j m = x :: r) (k : Nat) (h0 : 0 < k) (hk : k ≤ sz x) :
    Calls Try.prog 32 #[.pointer (some ⟨gy, 0, none⟩), .int .i64 (k : Int)] w fun e w' =>
      e = .returned (.agg #[.int .i64 (piece x k).kind, .int .i64 (piece x k).n, .string (bstr (piece x k).text)]) ∧ ∃ j' m', rest b j' m' = chop x r k ∧ Pos b j' m' ∧ St B gx gy base a b w0 i n j' m' o A c w' :=
  (walkTake_rest f p hr k h0 hk w s.wy).mono fun _ _ ⟨h1, ⟨i', n', h2, h3, h4⟩, h5⟩ => ⟨h1, i', n', h2, h3, s.takeY h4 h5⟩
end St
theorem rest_top {l : List CompV} (f : EdF l) {i n : Nat} (p : Pos l i n) : ∀ c ∈ rest l i n, sz c ≤ 4000 := by
  intro c hc
  rcases Nat.lt_or_ge i l.length with hi | hi
  · rw [rest_in hi] at hc
    rcases List.mem_cons.1 hc with rfl | hc
    · have := (cut_wh (f.wh _ (List.getElem_mem hi)) (p.at_ hi)).2
      have := f.top _ (List.getElem_mem hi)
      omega
    · exact f.top c (List.mem_of_mem_drop hc)
  · rw [rest_end hi] at hc
    cases hc
theorem whole_small {c : CompV} (h : Wh c) (hs : sz c ≤ 4000) : Small1 c := by
  have := piece_small h (k := sz c) hs
  rwa [piece_all h] at this
end Go.Proofs.Ytnadhpajelkngaa
