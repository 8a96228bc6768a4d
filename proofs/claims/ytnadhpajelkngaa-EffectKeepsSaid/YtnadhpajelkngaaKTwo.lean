/- The document's own Two: one edit, then another one, as one. Conditions: what memory may hold. -/
import Derived.Test.YtnadhpajelkngaaKPp
import Derived.Test.YtnadhpajelkngaaKRef
import Derived.Deep.DeepCutAuto
/- The document's own Two: one edit, then another one, as one. Conditions: what memory may hold. -/
namespace Go.Proofs.Ytnadhpajelkngaa
open Go.RowKit Go.Deep

/-- What is told of two edits. -/
def TwoEnd (a b : List CompV) (w : World) (e : Ending) (w' : World) : Prop :=
  (rCheck a ≠ 0 ∧ e = .returned (.tuple #[.slice none 0 0, .int .i64 (rCheck a : Int)])) ∨
  (rCheck a = 0 ∧ rCheck b ≠ 0 ∧ e = .returned (.tuple #[.slice none 0 0, .int .i64 (rCheck b : Int)])) ∨
  (rCheck a = 0 ∧ rCheck b = 0 ∧ rOut a ≠ rBase b ∧ e = .returned (.tuple #[.slice none 0 0, .int .i64 11])) ∨
  (rCheck a = 0 ∧ rCheck b = 0 ∧ rOut a = rBase b ∧ ∃ o, Cmp a b o ∧ (∀ x ∈ o, Small1 x) ∧ o.length ≤ 8000 ∧ ∃ A c, e = .returned (.tuple #[.slice A (rNormal o).length c, .int .i64 0]) ∧
    w'.ownsRow w.heap.size 54 3 (.slice A (rNormal o).length c) (rNormal o).length ((rNormal o).flatMap compCells))
theorem walk_new {A : Option Addr} {c : Nat} {l : List CompV} {w w' : World} {B g : Nat} (h : CompsAt w A l) (hB : B = w.heap.size) (hb : Below B w w') (hg : w'.heap[g]? = some (.cells #[.slice A l.length c, .int .i64 0, .int .i64 0] 67 (0, 0))) (hge : B ≤ g) : WalkAt B g l 0 0 w' := by
  subst hB
  refine ⟨A, c, ⟨_, hg, rfl, fun i hi => ?_⟩, h.below hb, fun h0 => h.form h0, hge⟩
  have : i = 0 ∨ i = 1 ∨ i = 2 := by omega
  rcases this with rfl | rfl | rfl <;> rfl
/-- What is so between two parts. -/
structure TwoM (a b : List CompV) (i n j m : Nat) (o : List CompV) : Prop where
  px : Pos a i n
  py : Pos b j m
  go : ∀ o', Cmp (rest a i n) (rest b j m) o' → Cmp a b (o ++ o')
  fit : outS (rest a i n) = inS (rest b j m)
  small : ∀ x ∈ o, Small1 x
  len : o.length + (wt (rest a i n) + wt (rest b j m)) ≤ 8000
namespace TwoM
variable {a b : List CompV} {i n j m i' n' j' m' k : Nat} {o ra rb : List CompV} {x y : CompV}
theorem gone (M : TwoM a b i n j m o) (fa : EdF a) (hra : rest a i n = x :: ra) (hk : x.kind = 3) (hr : rest a i' n' = ra) (hp : Pos a i' n') :
    TwoM a b i' n' j m (o ++ [x]) ∧ wt (rest a i' n') + wt (rest b j m) < wt (rest a i n) + wt (rest b j m) := by
  have hx : x ∈ rest a i n := by rw [hra]; simp
  have wx := rest_wh fa.wh M.px x hx
  have hf := M.fit; have hl := M.len; have h0 := wx.sz
  rw [hra, wt_cons] at hl
  rw [hra, outS_cons, out_three hk, Nat.zero_add] at hf
  rw [hra, hr, wt_cons]
  refine ⟨⟨hp, M.py, fun o' h => ?_, by rw [hr]; exact hf, small_snoc M.small (whole_small wx (rest_top fa M.px x hx)), by rw [List.length_append, hr]; simp; omega⟩, by omega⟩
  rw [hr] at h
  rw [List.append_assoc]
  exact M.go _ (by rw [hra]; exact .gone x ra _ _ hk h)
theorem puts (M : TwoM a b i n j m o) (fb : EdF b) (hrb : rest b j m = y :: rb) (hk : y.kind = 2) (h3 : kd (rest a i n) ≠ 3) (hr : rest b j' m' = rb) (hp : Pos b j' m') :
    TwoM a b i n j' m' (o ++ [y]) ∧ wt (rest a i n) + wt (rest b j' m') < wt (rest a i n) + wt (rest b j m) := by
  have hy : y ∈ rest b j m := by rw [hrb]; simp
  have wy := rest_wh fb.wh M.py y hy
  have hf := M.fit; have hl := M.len; have h0 := wy.sz
  rw [hrb, wt_cons] at hl
  rw [hrb, inS_cons, in_two hk, Nat.zero_add] at hf
  rw [hrb, hr, wt_cons]
  refine ⟨⟨M.px, hp, fun o' h => ?_, by rw [hr]; exact hf, small_snoc M.small (whole_small wy (rest_top fb M.py y hy)), by rw [List.length_append, hr]; simp; omega⟩, by omega⟩
  rw [hr] at h
  rw [List.append_assoc]
  exact M.go _ (by rw [hrb]; exact .puts _ y rb _ h3 hk h)
theorem both (M : TwoM a b i n j m o) (fa : EdF a) (fb : EdF b) (hra : rest a i n = x :: ra) (hrb : rest b j m = y :: rb) (hx3 : x.kind ≠ 3) (hy2 : y.kind ≠ 2) (hk : k = min (sz x) (sz y))
    (hr : rest a i' n' = chop x ra k) (hp : Pos a i' n') (hr2 : rest b j' m' = chop y rb k) (hp2 : Pos b j' m') {e : List CompV} (he : e = if y.kind = 1 then [piece x k] else if x.kind = 1 then [piece y k] else []) :
    TwoM a b i' n' j' m' (o ++ e) ∧ wt (rest a i' n') + wt (rest b j' m') < wt (rest a i n) + wt (rest b j m) := by
  have hx : x ∈ rest a i n := by rw [hra]; simp
  have hy : y ∈ rest b j m := by rw [hrb]; simp
  have wx := rest_wh fa.wh M.px x hx
  have wy := rest_wh fb.wh M.py y hy
  have hf := M.fit; have hl := M.len; have h0 := wx.sz; have h1 := wy.sz
  have cx := chop_wt wx ra (k := k) (by omega)
  have cy := chop_wt wy rb (k := k) (by omega)
  obtain ⟨c1, c2, c3, c4⟩ := chop_ed wx ra (n := k) (by omega) (by omega)
  obtain ⟨d1, d2, d3, d4⟩ := chop_ed wy rb (n := k) (by omega) (by omega)
  have px := (piece_wh wx (n := k) (by omega) (by omega)).2
  have py := (piece_wh wy (n := k) (by omega) (by omega)).2
  have ox : outN (piece x k) = k := by
    rcases wx.cases with ⟨g, _⟩ | ⟨g, _⟩ | ⟨g, _⟩
    · rw [sz_not (by rw [piece_kind]; omega)] at px; rw [out_one (by rw [piece_kind]; exact g), px]
    · exact absurd g hx3
    · rw [sz_two (by rw [piece_kind]; exact g)] at px; rw [out_two (by rw [piece_kind]; exact g), px]
  have iy : inN (piece y k) = k := by
    rw [sz_not (by rw [piece_kind]; exact hy2)] at py
    rw [inN, if_neg (by rw [piece_kind]; exact hy2), py]
  rw [hra, hrb, wt_cons, wt_cons] at hl
  rw [hra, hrb, c3, d2, ox, iy] at hf
  rw [hra, hrb, hr, hr2, wt_cons, wt_cons]
  have sx := piece_small wx (k := k) (rest_top fa M.px x hx)
  have sy := piece_small wy (k := k) (rest_top fb M.py y hy)
  have hel : e.length ≤ 1 ∧ ∀ z ∈ e, Small1 z := by
    rw [he]
    split
    · exact ⟨Nat.le_refl _, fun z hz => by rw [List.mem_singleton.1 hz]; exact sx⟩
    · split
      · exact ⟨Nat.le_refl _, fun z hz => by rw [List.mem_singleton.1 hz]; exact sy⟩
      · exact ⟨Nat.zero_le _, fun z hz => by cases hz⟩
  refine ⟨⟨hp, hp2, fun o' h => ?_, by rw [hr, hr2]; omega, fun z hz => ?_, by rw [List.length_append, hr, hr2]; omega⟩, by omega⟩
  · rw [hr, hr2] at h
    rw [List.append_assoc, he]
    exact M.go _ (by rw [hra, hrb]; exact .both x ra y rb o' k hx3 hy2 hk h)
  · rcases List.mem_append.1 hz with hz | hz
    · exact M.small z hz
    · exact hel.2 z hz
end TwoM
end Go.Proofs.Ytnadhpajelkngaa
