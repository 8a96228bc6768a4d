/- The document's own Two, Over and All, told by functions. Conditions: what memory may hold. (Merged of 3 texts.) -/
import Derived.Test.YtnadhpajelkngaaKTwo
import Derived.Test.YtnadhpajelkngaaKRef
import Derived.Deep.DeepCutAuto
import Derived.Test.YtnadhpajelkngaaKOp
import Derived.Test.YtnadhpajelkngaaKCs
import Derived.Test.YtnadhpajelkngaaKPair
/- The document's own Over: one edit behind another one of the same text. Conditions: what memory may hold. -/
namespace Go.Proofs.Ytnadhpajelkngaa
open Go.RowKit Go.Deep

/-- What is told of one edit behind another one. -/
def OverEnd (f : Bool) (a b : List CompV) (w : World) (e : Ending) (w' : World) : Prop :=
  (rCheck a ≠ 0 ∧ e = .returned (.tuple #[.slice none 0 0, .int .i64 (rCheck a : Int)])) ∨
  (rCheck a = 0 ∧ rCheck b ≠ 0 ∧ e = .returned (.tuple #[.slice none 0 0, .int .i64 (rCheck b : Int)])) ∨
  (rCheck a = 0 ∧ rCheck b = 0 ∧ rBase a ≠ rBase b ∧ e = .returned (.tuple #[.slice none 0 0, .int .i64 11])) ∨
  (rCheck a = 0 ∧ rCheck b = 0 ∧ rBase a = rBase b ∧ ∃ o, Ov f a b o ∧ (∀ x ∈ o, Small1 x) ∧ o.length ≤ 8000 ∧ ∃ A c, e = .returned (.tuple #[.slice A (rNormal o).length c, .int .i64 0]) ∧
    w'.ownsRow w.heap.size 54 3 (.slice A (rNormal o).length c) (rNormal o).length ((rNormal o).flatMap compCells))
/-- What is so between two parts. -/
structure OvM (f : Bool) (a b : List CompV) (i n j m : Nat) (o : List CompV) : Prop where
  px : Pos a i n
  py : Pos b j m
  go : ∀ o', Ov f (rest a i n) (rest b j m) o' → Ov f a b (o ++ o')
  fit : inS (rest a i n) = inS (rest b j m)
  small : ∀ x ∈ o, Small1 x
  len : o.length + (wt (rest a i n) + wt (rest b j m)) ≤ 8000
namespace OvM
variable {f : Bool} {a b : List CompV} {i n j m i' n' j' m' k : Nat} {o ra rb : List CompV} {x y : CompV}
theorem puts (M : OvM f a b i n j m o) (fa : EdF a) (hra : rest a i n = x :: ra) (hk : x.kind = 2) (hf2 : f = true ∨ kd (rest b j m) ≠ 2) (hr : rest a i' n' = ra) (hp : Pos a i' n') :
    OvM f a b i' n' j m (o ++ [x]) ∧ wt (rest a i' n') + wt (rest b j m) < wt (rest a i n) + wt (rest b j m) := by
  have hx : x ∈ rest a i n := by rw [hra]; simp
  have wx := rest_wh fa.wh M.px x hx
  have hf := M.fit; have hl := M.len; have h0 := wx.sz
  rw [hra, wt_cons] at hl
  rw [hra, inS_cons, in_two hk, Nat.zero_add] at hf
  rw [hra, hr, wt_cons]
  refine ⟨⟨hp, M.py, fun o' h => ?_, by rw [hr]; exact hf, small_snoc M.small (whole_small wx (rest_top fa M.px x hx)), by rw [List.length_append, hr]; simp; omega⟩, by omega⟩
  rw [hr] at h
  rw [List.append_assoc]
  exact M.go _ (by rw [hra]; exact .puts x ra _ _ hk hf2 h)
theorem pass (M : OvM f a b i n j m o) (fb : EdF b) (hrb : rest b j m = y :: rb) (hk : y.kind = 2) (h3 : ¬ (kd (rest a i n) = 2 ∧ f = true)) (hr : rest b j' m' = rb) (hp : Pos b j' m') :
    OvM f a b i n j' m' (o ++ [⟨1, (sz y : Int), []⟩]) ∧ wt (rest a i n) + wt (rest b j' m') < wt (rest a i n) + wt (rest b j m) := by
  have hy : y ∈ rest b j m := by rw [hrb]; simp
  have wy := rest_wh fb.wh M.py y hy
  have hf := M.fit; have hl := M.len; have h0 := wy.sz
  rw [hrb, wt_cons] at hl
  rw [hrb, inS_cons, in_two hk, Nat.zero_add] at hf
  rw [hrb, hr, wt_cons]
  refine ⟨⟨M.px, hp, fun o' h => ?_, by rw [hr]; exact hf, small_snoc M.small (Nat.zero_le _), by rw [List.length_append, hr]; simp; omega⟩, by omega⟩
  rw [hr] at h
  rw [List.append_assoc]
  exact M.go _ (by rw [hrb]; exact .pass _ y rb _ h3 hk h)
theorem both (M : OvM f a b i n j m o) (fa : EdF a) (fb : EdF b) (hra : rest a i n = x :: ra) (hrb : rest b j m = y :: rb) (hx2 : x.kind ≠ 2) (hy2 : y.kind ≠ 2) (hk : k = min (sz x) (sz y))
    (hr : rest a i' n' = chop x ra k) (hp : Pos a i' n') (hr2 : rest b j' m' = chop y rb k) (hp2 : Pos b j' m') {e : List CompV} (he : e = if y.kind = 1 then [piece x k] else []) :
    OvM f a b i' n' j' m' (o ++ e) ∧ wt (rest a i' n') + wt (rest b j' m') < wt (rest a i n) + wt (rest b j m) := by
  have hx : x ∈ rest a i n := by rw [hra]; simp
  have hy : y ∈ rest b j m := by rw [hrb]; simp
  have wx := rest_wh fa.wh M.px x hx
  have wy := rest_wh fb.wh M.py y hy
  have hf := M.fit; have hl := M.len; have h0 := wx.sz; have h1 := wy.sz
  have cx := chop_wt wx ra (k := k) (by omega)
  have cy := chop_wt wy rb (k := k) (by omega)
  have kk := chopped (a := ra) (b := rb) hx2 hy2 hk (by rw [← hra]; exact rest_wh fa.wh M.px) (by rw [← hrb]; exact rest_wh fb.wh M.py)
  have hia := kk.ia; have hib := kk.ib; have h0k := kk.pos
  rw [hra, hrb, wt_cons, wt_cons] at hl
  rw [hra, hrb, hia, hib] at hf
  rw [hra, hrb, hr, hr2, wt_cons, wt_cons]
  have sx := piece_small wx (k := k) (rest_top fa M.px x hx)
  have hel : e.length ≤ 1 ∧ ∀ z ∈ e, Small1 z := by
    rw [he]
    split
    · exact ⟨Nat.le_refl _, fun z hz => by rw [List.mem_singleton.1 hz]; exact sx⟩
    · exact ⟨Nat.zero_le _, fun z hz => by cases hz⟩
  refine ⟨⟨hp, hp2, fun o' h => ?_, by rw [hr, hr2]; omega, fun z hz => ?_, by rw [List.length_append, hr, hr2]; omega⟩, by omega⟩
  · rw [hr, hr2] at h
    rw [List.append_assoc, he]
    exact M.go _ (by rw [hra, hrb]; exact .both x ra y rb o' k hx2 hy2 hk h)
  · rcases List.mem_append.1 hz with hz | hz
    · exact M.small z hz
    · exact hel.2 z hz
end OvM
set_option maxHeartbeats 8000000 in
set_option maxRecDepth 100000 in
theorem refOver_any (A : Option Addr) (ca : Nat) (a : List CompV) (B : Option Addr) (cb : Nat) (b : List CompV) (hla : a.length ≤ maxLen) (hlb : b.length ≤ maxLen) (hfa : Fine1 a) (hfb : Fine1 b) (f : Bool) (w : World) (hA : CompsAt w A a) (hB : CompsAt w B b) :
    Calls Try.prog 11 #[.slice A a.length ca, .slice B b.length cb, .bool f] w fun e w' => OverEnd f a b w e w' ∧ Below w.heap.size w w' := by
  have GA := Lib.hid (fun w h => refCheck_any A ca a hla hfa w h)
  have GB := Lib.hid (fun w h => refCheck_any B cb b hlb hfb w h)
  have GO := Lib.hid (fun w h => refBase_any A ca a hla w h)
  have GI := Lib.hid (fun w h => refBase_any B cb b hlb w h)
  have HFA := Lib.hid hfa
  have HFB := Lib.hid hfb
  have HA := Lib.hid hA
  have HB := Lib.hid hB
  have HLA := Lib.hid hla
  have HLB := Lib.hid hlb
  clear hfa hfb hA hB hla hlb
  obtain ⟨ea, HEA⟩ : ∃ q, Hid (rCheck a = q) := ⟨_, Lib.hid rfl⟩
  obtain ⟨eb, HEB⟩ : ∃ q, Hid (rCheck b = q) := ⟨_, Lib.hid rfl⟩
  obtain ⟨xo, HXO⟩ : ∃ q, Hid (rBase a = q) := ⟨_, Lib.hid rfl⟩
  obtain ⟨xi, HXI⟩ : ∃ q, Hid (rBase b = q) := ⟨_, Lib.hid rfl⟩
  rw [HEA.out] at GA
  rw [HEB.out] at GB
  rw [HXO.out] at GO
  rw [HXI.out] at GI
  by_cases h1 : ea = 0
  · subst h1
    by_cases h2 : eb = 0
    · subst h2
      by_cases h3 : xo = xi
      · subst h3
        have fa := Lib.hid (edF_of HEA.out HFA.out)
        have fb := Lib.hid (edF_of HEB.out HFB.out)
        have HFIT : Hid (inS a = inS b) := by
          show _ = _
          have e1 := (ok_of HEA.out).base
          have e2 := (ok_of HEB.out).base
          rw [HXO.out] at e1
          rw [HXI.out] at e2
          omega
        have HEND : Hid (∀ e w', (∃ o, Ov f a b o ∧ (∀ x ∈ o, Small1 x) ∧ o.length ≤ 8000 ∧ ∃ A c, e = .returned (.tuple #[.slice A (rNormal o).length c, .int .i64 0]) ∧
    w'.ownsRow w.heap.size 54 3 (.slice A (rNormal o).length c) (rNormal o).length ((rNormal o).flatMap compCells)) → OverEnd f a b w e w') := fun e w' h => .inr (.inr (.inr ⟨HEA.out, HEB.out, by rw [HXO.out, HXI.out], h⟩))
        clear HEA HEB HXO HXI
        go_enter Try.func11, Try.ntmps11
        go_wp2_with fail
        refine (GA.out _ HA.out).mono ?_
        rintro e w1 ⟨rfl, hb⟩
        have HB1 := Lib.hid hb; clear hb
        go_wp2_with fail
        refine (GB.out _ (HB.out.below HB1.out)).mono ?_
        rintro e w2 ⟨rfl, hb⟩
        have HB2 : Hid (Below w.heap.size w w2) := HB1.out.trans (hb.mono HB1.out.size); clear hb
        go_wp2_with fail
        refine (GO.out _ (HA.out.below HB2.out)).mono ?_
        rintro e w2' ⟨rfl, rfl⟩
        go_wp2_with fail
        refine (GI.out _ (HB.out.below HB2.out)).mono ?_
        rintro e w2' ⟨rfl, rfl⟩
        go_wp2_with fail
        have HBN : Hid (Below w.heap.size w ((w2.alloc (Obj.cells #[Value.slice A a.length ca, .int .i64 0, .int .i64 0] 67)).alloc (Obj.cells #[Value.slice B b.length cb, .int .i64 0, .int .i64 0] 67))) :=
          (HB2.out.alloc HB2.out.size _).alloc (by have := HB2.out.size; simp; omega) _
        have S0 : Hid (St w.heap.size w2.heap.size (w2.heap.size + 1) (w2.heap.size + 2) a b w 0 0 0 0 [] none 0 ((w2.alloc (Obj.cells #[Value.slice A a.length ca, .int .i64 0, .int .i64 0] 67)).alloc (Obj.cells #[Value.slice B b.length cb, .int .i64 0, .int .i64 0] 67))) := by
          refine ⟨walk_new (c := ca) HA.out rfl HBN.out ?_ HB2.out.size, walk_new (c := cb) HB.out rfl HBN.out ?_ (by have := HB2.out.size; omega), World.ownsRow_nil _ _ _ _, HBN.out, by omega, by omega, by omega, by simp⟩
          · rw [Below.heap_alloc _ _ _ (by simp)]; exact heap_alloc_new _ _
          · exact (show (w2.alloc (Obj.cells #[Value.slice A a.length ca, .int .i64 0, .int .i64 0] 67)).heap.size = w2.heap.size + 1 by simp) ▸ heap_alloc_new _ _
        obtain ⟨gx, HGX⟩ : ∃ g, Hid (w2.heap.size = g) := ⟨_, Lib.hid rfl⟩
        rw [HGX.out] at S0 ⊢
        obtain ⟨gy, HGY⟩ : ∃ g, Hid (gx + 1 = g) := ⟨_, Lib.hid rfl⟩
        rw [HGY.out] at S0 ⊢
        obtain ⟨base, HBS⟩ : ∃ g, Hid (gx + 2 = g) := ⟨_, Lib.hid rfl⟩
        rw [HBS.out] at S0
        generalize ((w2.alloc (Obj.cells #[Value.slice A a.length ca, .int .i64 0, .int .i64 0] 67)).alloc (Obj.cells #[Value.slice B b.length cb, .int .i64 0, .int .i64 0] 67)) = w3 at S0 HBN ⊢
        clear HBN
        have M0 : Hid (OvM f a b 0 0 0 0 []) := by
          refine ⟨pos_start fa.out.wh, pos_start fb.out.wh, fun o' h => ?_, ?_, fun x hx => (by cases hx), ?_⟩
          · rw [rest_start fa.out.wh, rest_start fb.out.wh] at h; exact h
          · rw [rest_start fa.out.wh, rest_start fb.out.wh]; exact HFIT.out
          · rw [rest_start fa.out.wh, rest_start fb.out.wh]; have := fa.out.all; have := fb.out.all; show 0 + _ ≤ _; omega
        go_loopw [11] (fun o wr => ∃ (i n j m : Nat) (oo : List CompV) (A0 : Option Addr) (c0 : Nat), o = .slice A0 oo.length c0 ∧ St w.heap.size gx gy base a b w i n j m oo A0 c0 wr ∧ OvM f a b i n j m oo) (fun _ wr => leftOf a b gx gy wr)
        case atStart => exact ⟨0, 0, 0, 0, [], none, 0, rfl, S0.out, M0.out⟩
        case round =>
          obtain ⟨i, n, j, m, oo, A0, c0, rfl, hs, hm⟩ := hrel
          have S := Lib.hid hs
          have M := Lib.hid hm
          clear hs hm S0 M0
          rcases hra : rest a i n with _ | ⟨x, ra⟩
          · rcases hrb : rest b j m with _ | ⟨y, rb⟩
            · have GKX := Lib.hid (fun (w' : World) (s : St w.heap.size gx gy base a b w i n j m oo A0 c0 w') => s.kindX fa.out M.out.px)
              rw [hra] at GKX
              simp only [kd] at GKX
              have GKY := Lib.hid (fun (w' : World) (s : St w.heap.size gx gy base a b w i n j m oo A0 c0 w') => s.kindY fb.out M.out.py)
              rw [hrb] at GKY
              simp only [kd] at GKY
              have hc := M.out.go [] (by rw [hra, hrb]; exact .nil)
              rw [List.append_nil] at hc
              have HC := Lib.hid hc; clear hc
              go_wp2_with fail
              refine (GKX.out _ S.out).mono ?_
              rintro e w4 ⟨rfl, hs⟩
              have S4 := Lib.hid hs; clear hs
              go_wp2_with fail
              refine (GKY.out _ S4.out).mono ?_
              rintro e w5 ⟨rfl, hs⟩
              have S5 := Lib.hid hs; clear hs
              have hln := M.out.len
              have htl := small_tlen oo M.out.small
              have GN := Lib.hid (refNormal_any A0 c0 oo (by omega) (by omega) w5 (CellsAt.of_own S5.out.own))
              obtain ⟨L, HL⟩ : ∃ L, Hid (rNormal oo = L) := ⟨_, Lib.hid rfl⟩
              rw [HL.out] at GN
              have HE : Hid (∀ A' c' w6, w6.ownsRow w.heap.size 54 3 (.slice A' L.length c') L.length (L.flatMap compCells) → OverEnd f a b w (.returned (.tuple #[.slice A' L.length c', .int .i64 0])) w6) := fun A' c' w6 h =>
                HEND.out _ _ ⟨oo, HC.out, M.out.small, by omega, A', c', by rw [HL.out], by rw [HL.out]; exact h⟩
              clear hln htl
              go_wp2_with fail
              refine GN.out.mono ?_
              rintro e w6 ⟨A', c', rfl, hown, hb6⟩
              have HOWN := Lib.hid (own_base hown S5.out.low.size)
              have HB6 : Hid (Below w.heap.size w w6) := S5.out.low.trans (hb6.mono S5.out.low.size)
              clear hown hb6
              go_wp2
              go_ret2
              exact ⟨HE.out _ _ _ HOWN.out, HB6.out⟩
            · have hy2 : y.kind = 2 := by
                have hf := M.out.fit
                have hym : y ∈ rest b j m := by rw [hrb]; simp
                have wy := rest_wh fb.out.wh M.out.py y hym
                rw [hra, hrb, inS_nil, inS_cons] at hf
                rcases wy.cases with ⟨g, gn, _⟩ | ⟨g, gn, _⟩ | ⟨g, _⟩
                · rw [in_one g] at hf; omega
                · rw [in_three g] at hf; omega
                · exact g
              have h3 : ¬ (kd (rest a i n) = 2 ∧ f = true) := fun h => (by rw [hra] at h; have h1 : (0 : Int) = 2 := h.1; omega)
              have hym : y ∈ rest b j m := by rw [hrb]; simp
              have wy := Lib.hid (rest_wh fb.out.wh M.out.py y hym)
              have h0 := wy.out.sz
              clear hym
              have GKX := Lib.hid (fun (w' : World) (s : St w.heap.size gx gy base a b w i n j m oo A0 c0 w') => s.kindX fa.out M.out.px)
              rw [hra] at GKX
              simp only [kd] at GKX
              have GKY := Lib.hid (fun (w' : World) (s : St w.heap.size gx gy base a b w i n j m oo A0 c0 w') => s.kindY fb.out M.out.py)
              rw [hrb] at GKY
              simp only [kd] at GKY
              rw [hy2] at GKY
              have GLY := Lib.hid (fun (o1 : List CompV) (A1 : Option Addr) (c1 : Nat) (w' : World) (s : St w.heap.size gx gy base a b w i n j m o1 A1 c1 w') => s.leftY fb.out M.out.py hrb)
              have GTY := Lib.hid (fun (o1 : List CompV) (A1 : Option Addr) (c1 : Nat) (w' : World) (s : St w.heap.size gx gy base a b w i n j m o1 A1 c1 w') => s.takenY fb.out M.out.py hrb (sz y) h0 (Nat.le_refl _))
              rw [piece_all wy.out] at GTY
              have HCH : Hid (chop y rb (sz y) = rb) := if_pos rfl
              rw [HCH.out] at GTY
              have GM := Lib.hid (fun j' m' hr hp => M.out.pass fb.out hrb hy2 h3 (j' := j') (m' := m') hr hp)
              obtain ⟨z, HZ⟩ : ∃ z, Hid (sz y = z) := ⟨_, Lib.hid rfl⟩
              rw [HZ.out] at GLY GTY GM
              clear h0 h3 hy2 hra hrb
              go_wp2_with fail
              refine (GKX.out _ S.out).mono ?_
              rintro e w4 ⟨rfl, hs⟩
              have S4 := Lib.hid hs; clear hs
              go_wp2_with fail
              refine (GKY.out _ S4.out).mono ?_
              rintro e w4b ⟨rfl, hs⟩
              have S4b := Lib.hid hs; clear hs
              go_wp2_with fail
              refine (GKX.out _ S4b.out).mono ?_
              rintro e w5 ⟨rfl, hs⟩
              have S5 := Lib.hid hs; clear hs
              go_wp2_with fail
              refine (GKY.out _ S5.out).mono ?_
              rintro e w5b ⟨rfl, hs⟩
              have S5b := Lib.hid hs; clear hs
              go_wp2_with fail
              refine (GLY.out _ _ _ _ S5b.out).mono ?_
              rintro e w6 ⟨rfl, hs⟩
              have S6 := Lib.hid hs; clear hs
              go_wp2_with (first
                | (at_builtin
                   refine wpList_pushB rfl (.tmp 84) (.tmp 88) rfl base (.slice A0 oo.length c0) oo ⟨1, (z : Int), []⟩ rfl S6.out.own S6.out.size rfl (by have := M.out.len; omega) ?_
                   intro out1 A1 c1 w9 ho1 hown1 hb9
                   have HO1 := Lib.hid ho1
                   have S9 := Lib.hid (S6.out.push hown1 hb9)
                   clear ho1 hown1 hb9)
                | fail)
              refine (GLY.out _ _ _ _ S9.out).mono ?_
              rintro e w10 ⟨rfl, hs⟩
              have S10 := Lib.hid hs; clear hs
              go_wp2_with fail
              refine (GTY.out _ _ _ _ S10.out).mono ?_
              rintro e w11 ⟨rfl, j', m', hr, hp, hs⟩
              have S11 := Lib.hid hs; clear hs
              have MN := Lib.hid (GM.out j' m' hr hp)
              clear hr hp
              go_wp2
              go_roundw
              case rel => exact ⟨i, n, j', m', out1, A1, c1, rfl, S11.out, by rw [HO1.out]; exact MN.out.1⟩
              case measure => rw [S11.out.left, S.out.left]; exact MN.out.2
          · by_cases hx2 : x.kind = 2
            · cases f
              · rcases hrb : rest b j m with _ | ⟨y, rb⟩
                · have hxm : x ∈ rest a i n := by rw [hra]; simp
                  have wx := Lib.hid (rest_wh fa.out.wh M.out.px x hxm)
                  have h0 := wx.out.sz
                  clear hxm
                  have GKX := Lib.hid (fun (w' : World) (s : St w.heap.size gx gy base a b w i n j m oo A0 c0 w') => s.kindX fa.out M.out.px)
                  rw [hra] at GKX
                  simp only [kd] at GKX
                  rw [hx2] at GKX
                  have GKY := Lib.hid (fun (w' : World) (s : St w.heap.size gx gy base a b w i n j m oo A0 c0 w') => s.kindY fb.out M.out.py)
                  rw [hrb] at GKY
                  simp only [kd] at GKY
                  have hf2 : false = true ∨ kd (rest b j m) ≠ 2 := .inr (by rw [hrb]; show (0 : Int) ≠ 2; omega)
                  have GLX := Lib.hid (fun (w' : World) (s : St w.heap.size gx gy base a b w i n j m oo A0 c0 w') => s.leftX fa.out M.out.px hra)
                  have GTX := Lib.hid (fun (w' : World) (s : St w.heap.size gx gy base a b w i n j m oo A0 c0 w') => s.takenX fa.out M.out.px hra (sz x) h0 (Nat.le_refl _))
                  rw [piece_all wx.out] at GTX
                  have HCH : Hid (chop x ra (sz x) = ra) := if_pos rfl
                  rw [HCH.out] at GTX
                  have GM := Lib.hid (fun i' n' hr hp => M.out.puts fa.out hra hx2 hf2 (i' := i') (n' := n') hr hp)
                  obtain ⟨z, HZ⟩ : ∃ z, Hid (sz x = z) := ⟨_, Lib.hid rfl⟩
                  rw [HZ.out] at GLX GTX
                  clear h0 hx2 hra hf2 hrb
                  go_wp2_with fail
                  refine (GKX.out _ S.out).mono ?_
                  rintro e w4 ⟨rfl, hs⟩
                  have S4 := Lib.hid hs; clear hs
                  go_wp2_with fail
                  refine (GKX.out _ S4.out).mono ?_
                  rintro e w5 ⟨rfl, hs⟩
                  have S5 := Lib.hid hs; clear hs
                  go_wp2_with fail
                  refine (GKY.out _ S5.out).mono ?_
                  rintro e w5b ⟨rfl, hs⟩
                  have S5b := Lib.hid hs; clear hs
                  go_wp2_with fail
                  refine (GLX.out _ S5b.out).mono ?_
                  rintro e w6 ⟨rfl, hs⟩
                  have S6 := Lib.hid hs; clear hs
                  go_wp2_with fail
                  refine (GTX.out _ S6.out).mono ?_
                  rintro e w7 ⟨rfl, i', n', hr, hp, hs⟩
                  have S7 := Lib.hid hs; clear hs
                  have MN := Lib.hid (GM.out i' n' hr hp)
                  clear hr hp
                  go_wp2_with (first
                    | (at_builtin
                       refine wpList_pushB rfl (.tmp 73) (.tmp 78) rfl base (.slice A0 oo.length c0) oo x rfl S7.out.own S7.out.size rfl (by have := M.out.len; omega) ?_
                       intro out1 A1 c1 w9 ho1 hown1 hb9
                       have HO1 := Lib.hid ho1
                       have S9 := Lib.hid (S7.out.push hown1 hb9)
                       clear ho1 hown1 hb9)
                    | fail)
                  go_roundw
                  case rel => exact ⟨i', n', j, m, out1, A1, c1, rfl, S9.out, by rw [HO1.out]; exact MN.out.1⟩
                  case measure => rw [S9.out.left, S.out.left]; exact MN.out.2
                · by_cases hy2 : y.kind = 2
                  · have h3 : ¬ (kd (rest a i n) = 2 ∧ false = true) := fun h => (by cases h.2)
                    have hym : y ∈ rest b j m := by rw [hrb]; simp
                    have wy := Lib.hid (rest_wh fb.out.wh M.out.py y hym)
                    have h0 := wy.out.sz
                    clear hym
                    have GKX := Lib.hid (fun (w' : World) (s : St w.heap.size gx gy base a b w i n j m oo A0 c0 w') => s.kindX fa.out M.out.px)
                    rw [hra] at GKX
                    simp only [kd] at GKX
                    rw [hx2] at GKX
                    have GKY := Lib.hid (fun (w' : World) (s : St w.heap.size gx gy base a b w i n j m oo A0 c0 w') => s.kindY fb.out M.out.py)
                    rw [hrb] at GKY
                    simp only [kd] at GKY
                    rw [hy2] at GKY
                    have GLY := Lib.hid (fun (o1 : List CompV) (A1 : Option Addr) (c1 : Nat) (w' : World) (s : St w.heap.size gx gy base a b w i n j m o1 A1 c1 w') => s.leftY fb.out M.out.py hrb)
                    have GTY := Lib.hid (fun (o1 : List CompV) (A1 : Option Addr) (c1 : Nat) (w' : World) (s : St w.heap.size gx gy base a b w i n j m o1 A1 c1 w') => s.takenY fb.out M.out.py hrb (sz y) h0 (Nat.le_refl _))
                    rw [piece_all wy.out] at GTY
                    have HCH : Hid (chop y rb (sz y) = rb) := if_pos rfl
                    rw [HCH.out] at GTY
                    have GM := Lib.hid (fun j' m' hr hp => M.out.pass fb.out hrb hy2 h3 (j' := j') (m' := m') hr hp)
                    obtain ⟨z, HZ⟩ : ∃ z, Hid (sz y = z) := ⟨_, Lib.hid rfl⟩
                    rw [HZ.out] at GLY GTY GM
                    clear h0 h3 hy2 hra hrb hx2
                    go_wp2_with fail
                    refine (GKX.out _ S.out).mono ?_
                    rintro e w4 ⟨rfl, hs⟩
                    have S4 := Lib.hid hs; clear hs
                    go_wp2_with fail
                    refine (GKX.out _ S4.out).mono ?_
                    rintro e w4b ⟨rfl, hs⟩
                    have S4b := Lib.hid hs; clear hs
                    go_wp2_with fail
                    refine (GKY.out _ S4b.out).mono ?_
                    rintro e w5 ⟨rfl, hs⟩
                    have S5 := Lib.hid hs; clear hs
                    go_wp2_with fail
                    refine (GKY.out _ S5.out).mono ?_
                    rintro e w5b ⟨rfl, hs⟩
                    have S5b := Lib.hid hs; clear hs
                    go_wp2_with fail
                    refine (GLY.out _ _ _ _ S5b.out).mono ?_
                    rintro e w6 ⟨rfl, hs⟩
                    have S6 := Lib.hid hs; clear hs
                    go_wp2_with (first
                      | (at_builtin
                         refine wpList_pushB rfl (.tmp 84) (.tmp 88) rfl base (.slice A0 oo.length c0) oo ⟨1, (z : Int), []⟩ rfl S6.out.own S6.out.size rfl (by have := M.out.len; omega) ?_
                         intro out1 A1 c1 w9 ho1 hown1 hb9
                         have HO1 := Lib.hid ho1
                         have S9 := Lib.hid (S6.out.push hown1 hb9)
                         clear ho1 hown1 hb9)
                      | fail)
                    refine (GLY.out _ _ _ _ S9.out).mono ?_
                    rintro e w10 ⟨rfl, hs⟩
                    have S10 := Lib.hid hs; clear hs
                    go_wp2_with fail
                    refine (GTY.out _ _ _ _ S10.out).mono ?_
                    rintro e w11 ⟨rfl, j', m', hr, hp, hs⟩
                    have S11 := Lib.hid hs; clear hs
                    have MN := Lib.hid (GM.out j' m' hr hp)
                    clear hr hp
                    go_wp2
                    go_roundw
                    case rel => exact ⟨i, n, j', m', out1, A1, c1, rfl, S11.out, by rw [HO1.out]; exact MN.out.1⟩
                    case measure => rw [S11.out.left, S.out.left]; exact MN.out.2
                  · have hxm : x ∈ rest a i n := by rw [hra]; simp
                    have wx := Lib.hid (rest_wh fa.out.wh M.out.px x hxm)
                    have h0 := wx.out.sz
                    clear hxm
                    have GKX := Lib.hid (fun (w' : World) (s : St w.heap.size gx gy base a b w i n j m oo A0 c0 w') => s.kindX fa.out M.out.px)
                    rw [hra] at GKX
                    simp only [kd] at GKX
                    rw [hx2] at GKX
                    have GKY := Lib.hid (fun (w' : World) (s : St w.heap.size gx gy base a b w i n j m oo A0 c0 w') => s.kindY fb.out M.out.py)
                    rw [hrb] at GKY
                    simp only [kd] at GKY
                    obtain ⟨ky, HKY⟩ : ∃ q, Hid (y.kind = q) := ⟨_, Lib.hid rfl⟩
                    have hf2 : false = true ∨ kd (rest b j m) ≠ 2 := .inr (by rw [hrb]; exact hy2)
                    have k2 : (ky != 2) = true := bne_iff_ne.2 (by rw [← HKY.out]; exact hy2)
                    rw [HKY.out] at GKY
                    have GLX := Lib.hid (fun (w' : World) (s : St w.heap.size gx gy base a b w i n j m oo A0 c0 w') => s.leftX fa.out M.out.px hra)
                    have GTX := Lib.hid (fun (w' : World) (s : St w.heap.size gx gy base a b w i n j m oo A0 c0 w') => s.takenX fa.out M.out.px hra (sz x) h0 (Nat.le_refl _))
                    rw [piece_all wx.out] at GTX
                    have HCH : Hid (chop x ra (sz x) = ra) := if_pos rfl
                    rw [HCH.out] at GTX
                    have GM := Lib.hid (fun i' n' hr hp => M.out.puts fa.out hra hx2 hf2 (i' := i') (n' := n') hr hp)
                    obtain ⟨z, HZ⟩ : ∃ z, Hid (sz x = z) := ⟨_, Lib.hid rfl⟩
                    rw [HZ.out] at GLX GTX
                    clear h0 hx2 hra hf2 hrb hy2
                    go_wp2_with fail
                    refine (GKX.out _ S.out).mono ?_
                    rintro e w4 ⟨rfl, hs⟩
                    have S4 := Lib.hid hs; clear hs
                    go_wp2_with fail
                    refine (GKX.out _ S4.out).mono ?_
                    rintro e w5 ⟨rfl, hs⟩
                    have S5 := Lib.hid hs; clear hs
                    go_wp2_with fail
                    refine (GKY.out _ S5.out).mono ?_
                    rintro e w5b ⟨rfl, hs⟩
                    have S5b := Lib.hid hs; clear hs
                    go_wp2_with fail
                    refine (GLX.out _ S5b.out).mono ?_
                    rintro e w6 ⟨rfl, hs⟩
                    have S6 := Lib.hid hs; clear hs
                    go_wp2_with fail
                    refine (GTX.out _ S6.out).mono ?_
                    rintro e w7 ⟨rfl, i', n', hr, hp, hs⟩
                    have S7 := Lib.hid hs; clear hs
                    have MN := Lib.hid (GM.out i' n' hr hp)
                    clear hr hp
                    go_wp2_with (first
                      | (at_builtin
                         refine wpList_pushB rfl (.tmp 73) (.tmp 78) rfl base (.slice A0 oo.length c0) oo x rfl S7.out.own S7.out.size rfl (by have := M.out.len; omega) ?_
                         intro out1 A1 c1 w9 ho1 hown1 hb9
                         have HO1 := Lib.hid ho1
                         have S9 := Lib.hid (S7.out.push hown1 hb9)
                         clear ho1 hown1 hb9)
                      | fail)
                    go_roundw
                    case rel => exact ⟨i', n', j, m, out1, A1, c1, rfl, S9.out, by rw [HO1.out]; exact MN.out.1⟩
                    case measure => rw [S9.out.left, S.out.left]; exact MN.out.2
              · have hxm : x ∈ rest a i n := by rw [hra]; simp
                have wx := Lib.hid (rest_wh fa.out.wh M.out.px x hxm)
                have h0 := wx.out.sz
                clear hxm
                have GKX := Lib.hid (fun (w' : World) (s : St w.heap.size gx gy base a b w i n j m oo A0 c0 w') => s.kindX fa.out M.out.px)
                rw [hra] at GKX
                simp only [kd] at GKX
                rw [hx2] at GKX
                have hf2 : true = true ∨ kd (rest b j m) ≠ 2 := .inl rfl
                have GLX := Lib.hid (fun (w' : World) (s : St w.heap.size gx gy base a b w i n j m oo A0 c0 w') => s.leftX fa.out M.out.px hra)
                have GTX := Lib.hid (fun (w' : World) (s : St w.heap.size gx gy base a b w i n j m oo A0 c0 w') => s.takenX fa.out M.out.px hra (sz x) h0 (Nat.le_refl _))
                rw [piece_all wx.out] at GTX
                have HCH : Hid (chop x ra (sz x) = ra) := if_pos rfl
                rw [HCH.out] at GTX
                have GM := Lib.hid (fun i' n' hr hp => M.out.puts fa.out hra hx2 hf2 (i' := i') (n' := n') hr hp)
                obtain ⟨z, HZ⟩ : ∃ z, Hid (sz x = z) := ⟨_, Lib.hid rfl⟩
                rw [HZ.out] at GLX GTX
                clear h0 hx2 hra hf2
                go_wp2_with fail
                refine (GKX.out _ S.out).mono ?_
                rintro e w4 ⟨rfl, hs⟩
                have S4 := Lib.hid hs; clear hs
                go_wp2_with fail
                refine (GKX.out _ S4.out).mono ?_
                rintro e w5 ⟨rfl, hs⟩
                have S5 := Lib.hid hs; clear hs
                go_wp2_with fail
                refine (GLX.out _ S5.out).mono ?_
                rintro e w6 ⟨rfl, hs⟩
                have S6 := Lib.hid hs; clear hs
                go_wp2_with fail
                refine (GTX.out _ S6.out).mono ?_
                rintro e w7 ⟨rfl, i', n', hr, hp, hs⟩
                have S7 := Lib.hid hs; clear hs
                have MN := Lib.hid (GM.out i' n' hr hp)
                clear hr hp
                go_wp2_with (first
                  | (at_builtin
                     refine wpList_pushB rfl (.tmp 73) (.tmp 78) rfl base (.slice A0 oo.length c0) oo x rfl S7.out.own S7.out.size rfl (by have := M.out.len; omega) ?_
                     intro out1 A1 c1 w9 ho1 hown1 hb9
                     have HO1 := Lib.hid ho1
                     have S9 := Lib.hid (S7.out.push hown1 hb9)
                     clear ho1 hown1 hb9)
                  | fail)
                go_roundw
                case rel => exact ⟨i', n', j, m, out1, A1, c1, rfl, S9.out, by rw [HO1.out]; exact MN.out.1⟩
                case measure => rw [S9.out.left, S.out.left]; exact MN.out.2
            · rcases hrb : rest b j m with _ | ⟨y, rb⟩
              · exfalso
                have hf := M.out.fit
                have hxm : x ∈ rest a i n := by rw [hra]; simp
                have wx := rest_wh fa.out.wh M.out.px x hxm
                rw [hra, hrb, inS_nil, inS_cons] at hf
                rcases wx.cases with ⟨g, gn, _⟩ | ⟨g, gn, _⟩ | ⟨g, _⟩
                · rw [in_one g] at hf; omega
                · rw [in_three g] at hf; omega
                · exact hx2 g
              · by_cases hy2 : y.kind = 2
                · obtain ⟨kx, HKX⟩ : ∃ q, Hid (x.kind = q) := ⟨_, Lib.hid rfl⟩
                  have hxm : x ∈ rest a i n := by rw [hra]; simp
                  have wx := Lib.hid (rest_wh fa.out.wh M.out.px x hxm)
                  have k0 : (kx != 0) = true := bne_iff_ne.2 (by rw [← HKX.out]; rcases wx.out.cases with g | g | g <;> omega)
                  have k2 : (kx == 2) = false := beq_eq_false_iff_ne.2 (by rw [← HKX.out]; exact hx2)
                  have h3 : ¬ (kd (rest a i n) = 2 ∧ f = true) := fun h => hx2 (by rw [hra] at h; exact h.1)
                  clear hxm
                  have hym : y ∈ rest b j m := by rw [hrb]; simp
                  have wy := Lib.hid (rest_wh fb.out.wh M.out.py y hym)
                  have h0 := wy.out.sz
                  clear hym
                  have GKX := Lib.hid (fun (w' : World) (s : St w.heap.size gx gy base a b w i n j m oo A0 c0 w') => s.kindX fa.out M.out.px)
                  rw [hra] at GKX
                  simp only [kd] at GKX
                  rw [HKX.out] at GKX
                  have GKY := Lib.hid (fun (w' : World) (s : St w.heap.size gx gy base a b w i n j m oo A0 c0 w') => s.kindY fb.out M.out.py)
                  rw [hrb] at GKY
                  simp only [kd] at GKY
                  rw [hy2] at GKY
                  have GLY := Lib.hid (fun (o1 : List CompV) (A1 : Option Addr) (c1 : Nat) (w' : World) (s : St w.heap.size gx gy base a b w i n j m o1 A1 c1 w') => s.leftY fb.out M.out.py hrb)
                  have GTY := Lib.hid (fun (o1 : List CompV) (A1 : Option Addr) (c1 : Nat) (w' : World) (s : St w.heap.size gx gy base a b w i n j m o1 A1 c1 w') => s.takenY fb.out M.out.py hrb (sz y) h0 (Nat.le_refl _))
                  rw [piece_all wy.out] at GTY
                  have HCH : Hid (chop y rb (sz y) = rb) := if_pos rfl
                  rw [HCH.out] at GTY
                  have GM := Lib.hid (fun j' m' hr hp => M.out.pass fb.out hrb hy2 h3 (j' := j') (m' := m') hr hp)
                  obtain ⟨z, HZ⟩ : ∃ z, Hid (sz y = z) := ⟨_, Lib.hid rfl⟩
                  rw [HZ.out] at GLY GTY GM
                  clear h0 h3 hy2 hra hrb hx2
                  go_wp2_with fail
                  refine (GKX.out _ S.out).mono ?_
                  rintro e w4 ⟨rfl, hs⟩
                  have S4 := Lib.hid hs; clear hs
                  go_wp2_with fail
                  refine (GKX.out _ S4.out).mono ?_
                  rintro e w5 ⟨rfl, hs⟩
                  have S5 := Lib.hid hs; clear hs
                  go_wp2_with fail
                  refine (GKY.out _ S5.out).mono ?_
                  rintro e w5b ⟨rfl, hs⟩
                  have S5b := Lib.hid hs; clear hs
                  go_wp2_with fail
                  refine (GLY.out _ _ _ _ S5b.out).mono ?_
                  rintro e w6 ⟨rfl, hs⟩
                  have S6 := Lib.hid hs; clear hs
                  go_wp2_with (first
                    | (at_builtin
                       refine wpList_pushB rfl (.tmp 84) (.tmp 88) rfl base (.slice A0 oo.length c0) oo ⟨1, (z : Int), []⟩ rfl S6.out.own S6.out.size rfl (by have := M.out.len; omega) ?_
                       intro out1 A1 c1 w9 ho1 hown1 hb9
                       have HO1 := Lib.hid ho1
                       have S9 := Lib.hid (S6.out.push hown1 hb9)
                       clear ho1 hown1 hb9)
                    | fail)
                  refine (GLY.out _ _ _ _ S9.out).mono ?_
                  rintro e w10 ⟨rfl, hs⟩
                  have S10 := Lib.hid hs; clear hs
                  go_wp2_with fail
                  refine (GTY.out _ _ _ _ S10.out).mono ?_
                  rintro e w11 ⟨rfl, j', m', hr, hp, hs⟩
                  have S11 := Lib.hid hs; clear hs
                  have MN := Lib.hid (GM.out j' m' hr hp)
                  clear hr hp
                  go_wp2
                  go_roundw
                  case rel => exact ⟨i, n, j', m', out1, A1, c1, rfl, S11.out, by rw [HO1.out]; exact MN.out.1⟩
                  case measure => rw [S11.out.left, S.out.left]; exact MN.out.2
                · have hxm : x ∈ rest a i n := by rw [hra]; simp
                  have wx := Lib.hid (rest_wh fa.out.wh M.out.px x hxm)
                  have hym : y ∈ rest b j m := by rw [hrb]; simp
                  have wy := Lib.hid (rest_wh fb.out.wh M.out.py y hym)
                  have tx := rest_top fa.out M.out.px x hxm
                  have ty := rest_top fb.out M.out.py y hym
                  have h0 := wx.out.sz
                  have h1 := wy.out.sz
                  clear hxm hym
                  have GKX := Lib.hid (fun (w' : World) (s : St w.heap.size gx gy base a b w i n j m oo A0 c0 w') => s.kindX fa.out M.out.px)
                  rw [hra] at GKX
                  simp only [kd] at GKX
                  have GKY := Lib.hid (fun (w' : World) (s : St w.heap.size gx gy base a b w i n j m oo A0 c0 w') => s.kindY fb.out M.out.py)
                  rw [hrb] at GKY
                  simp only [kd] at GKY
                  obtain ⟨kx, HKX⟩ : ∃ q, Hid (x.kind = q) := ⟨_, Lib.hid rfl⟩
                  obtain ⟨ky, HKY⟩ : ∃ q, Hid (y.kind = q) := ⟨_, Lib.hid rfl⟩
                  have hkx : kx = 1 ∨ kx = 3 := by rw [← HKX.out]; rcases wx.out.cases with g | g | g <;> omega
                  have hky : ky = 1 ∨ ky = 3 := by rw [← HKY.out]; rcases wy.out.cases with g | g | g <;> omega
                  rw [HKX.out] at GKX
                  rw [HKY.out] at GKY
                  obtain ⟨k, HK⟩ : ∃ k, Hid (k = min (sz x) (sz y)) := ⟨_, Lib.hid rfl⟩
                  have hk := HK.out
                  have GLX := Lib.hid (fun (w' : World) (s : St w.heap.size gx gy base a b w i n j m oo A0 c0 w') => s.leftX fa.out M.out.px hra)
                  have GLY := Lib.hid (fun (w' : World) (s : St w.heap.size gx gy base a b w i n j m oo A0 c0 w') => s.leftY fb.out M.out.py hrb)
                  have GTX := Lib.hid (fun (w' : World) (s : St w.heap.size gx gy base a b w i n j m oo A0 c0 w') => s.takenX fa.out M.out.px hra k (by omega) (by omega))
                  have GTY := Lib.hid (fun (i' n' : Nat) (w' : World) (s : St w.heap.size gx gy base a b w i' n' j m oo A0 c0 w') => s.takenY fb.out M.out.py hrb k (by omega) (by omega))
                  have GM := Lib.hid (fun i' n' j' m' e hr hp hr2 hp2 he => M.out.both fa.out fb.out hra hrb hx2 hy2 HK.out (i' := i') (n' := n') (j' := j') (m' := m') hr hp hr2 hp2 (e := e) he)
                  have PX := Lib.hid ((piece_kind x k).trans HKX.out)
                  have PY := Lib.hid ((piece_kind y k).trans HKY.out)
                  rw [HKY.out] at GM
                  obtain ⟨p, HP⟩ : ∃ p, Hid (sz x = p) := ⟨_, Lib.hid rfl⟩
                  obtain ⟨q, HQ⟩ : ∃ p, Hid (sz y = p) := ⟨_, Lib.hid rfl⟩
                  rw [HP.out, HQ.out] at hk
                  rw [HP.out] at GLX h0 tx
                  rw [HQ.out] at GLY h1 ty
                  obtain ⟨xx, HXX⟩ : ∃ x', Hid (piece x k = x') := ⟨_, Lib.hid rfl⟩
                  obtain ⟨yy, HYY⟩ : ∃ x', Hid (piece y k = x') := ⟨_, Lib.hid rfl⟩
                  rw [HXX.out] at GTX PX GM
                  rw [HYY.out] at GTY PY
                  clear HXX HYY HK HKX HKY
                  obtain ⟨xk, xn, xt⟩ := xx
                  obtain ⟨yk, yn, yt⟩ := yy
                  simp only at GTX GTY PX PY GM
                  have ek := PX.out
                  have el := PY.out
                  subst ek
                  subst el
                  clear hx2 hy2 hra hrb
                  have hlast : p ≤ q ∧ k = p ∨ ¬ p ≤ q ∧ k = q := by omega
                  clear hk PX PY
                  rcases hkx with rfl | rfl <;> rcases hky with rfl | rfl <;> rcases hlast with ⟨hpq, rfl⟩ | ⟨hpq, rfl⟩
                  · go_wp2_with fail
                    refine (GKX.out _ S.out).mono ?_
                    rintro e w4 ⟨rfl, hs⟩
                    have S4 := Lib.hid hs; clear hs
                    go_wp2_with fail
                    refine (GKX.out _ S4.out).mono ?_
                    rintro e w5 ⟨rfl, hs⟩
                    have S5 := Lib.hid hs; clear hs
                    go_wp2_with fail
                    refine (GKY.out _ S5.out).mono ?_
                    rintro e w5b ⟨rfl, hs⟩
                    have S5b := Lib.hid hs; clear hs
                    go_wp2_with fail
                    refine (GLX.out _ S5b.out).mono ?_
                    rintro e w6 ⟨rfl, hs⟩
                    have S6 := Lib.hid hs; clear hs
                    go_wp2_with fail
                    refine (GLY.out _ S6.out).mono ?_
                    rintro e w6b ⟨rfl, hs⟩
                    have S6b := Lib.hid hs; clear hs
                    go_wp2_with fail
                    refine (GTX.out _ S6b.out).mono ?_
                    rintro e w7 ⟨rfl, i', n', hr, hp, hs⟩
                    have S7 := Lib.hid hs; clear hs
                    go_wp2_with fail
                    refine (GTY.out i' n' _ S7.out).mono ?_
                    rintro e w8 ⟨rfl, j', m', hr2, hp2, hs⟩
                    have S8 := Lib.hid hs; clear hs
                    have S11 := Lib.hid (S8.out.below (((Below.refl w8.heap.size w8).alloc (Nat.le_refl _) (Obj.cells #[.int .i64 1, .int .i64 xn, .string (bstr xt)] 54)).alloc (by simp) (Obj.cells #[.int .i64 1, .int .i64 yn, .string (bstr yt)] 54)))
                    have MN := Lib.hid (GM.out i' n' j' m' [⟨1, xn, xt⟩] hr hp hr2 hp2 (by simp))
                    clear hr hp hr2 hp2
                    go_wp2_with (first
                      | (at_builtin
                         refine wpList_pushB rfl (.tmp 57) (.tmp 59) rfl base (.slice A0 oo.length c0) oo ⟨1, xn, xt⟩ rfl S11.out.own S11.out.size (Eq.trans (rfl : _ = Value.slice (some ⟨w8.heap.size + 1 + 1, 0, none⟩) 1 1) (by simp)) (by have := M.out.len; omega) ?_
                         intro out1 A1 c1 w9 ho1 hown1 hb9
                         have HO1 := Lib.hid ho1
                         have S9 := Lib.hid (S11.out.push hown1 hb9)
                         clear ho1 hown1 hb9)
                      | fail)
                    go_roundw
                    case rel => exact ⟨i', n', j', m', out1, A1, c1, rfl, S9.out, by rw [HO1.out]; exact MN.out.1⟩
                    case measure => rw [S9.out.left, S.out.left]; exact MN.out.2
                  · have hqp : k ≤ p := by omega
                    go_wp2_with fail
                    refine (GKX.out _ S.out).mono ?_
                    rintro e w4 ⟨rfl, hs⟩
                    have S4 := Lib.hid hs; clear hs
                    go_wp2_with fail
                    refine (GKX.out _ S4.out).mono ?_
                    rintro e w5 ⟨rfl, hs⟩
                    have S5 := Lib.hid hs; clear hs
                    go_wp2_with fail
                    refine (GKY.out _ S5.out).mono ?_
                    rintro e w5b ⟨rfl, hs⟩
                    have S5b := Lib.hid hs; clear hs
                    go_wp2_with fail
                    refine (GLX.out _ S5b.out).mono ?_
                    rintro e w6 ⟨rfl, hs⟩
                    have S6 := Lib.hid hs; clear hs
                    go_wp2_with fail
                    refine (GLY.out _ S6.out).mono ?_
                    rintro e w6b ⟨rfl, hs⟩
                    have S6b := Lib.hid hs; clear hs
                    go_wp2_with fail
                    refine (GTX.out _ S6b.out).mono ?_
                    rintro e w7 ⟨rfl, i', n', hr, hp, hs⟩
                    have S7 := Lib.hid hs; clear hs
                    go_wp2_with fail
                    refine (GTY.out i' n' _ S7.out).mono ?_
                    rintro e w8 ⟨rfl, j', m', hr2, hp2, hs⟩
                    have S8 := Lib.hid hs; clear hs
                    have S11 := Lib.hid (S8.out.below (((Below.refl w8.heap.size w8).alloc (Nat.le_refl _) (Obj.cells #[.int .i64 1, .int .i64 xn, .string (bstr xt)] 54)).alloc (by simp) (Obj.cells #[.int .i64 1, .int .i64 yn, .string (bstr yt)] 54)))
                    have MN := Lib.hid (GM.out i' n' j' m' [⟨1, xn, xt⟩] hr hp hr2 hp2 (by simp))
                    clear hr hp hr2 hp2
                    go_wp2_with (first
                      | (at_builtin
                         refine wpList_pushB rfl (.tmp 57) (.tmp 59) rfl base (.slice A0 oo.length c0) oo ⟨1, xn, xt⟩ rfl S11.out.own S11.out.size (Eq.trans (rfl : _ = Value.slice (some ⟨w8.heap.size + 1 + 1, 0, none⟩) 1 1) (by simp)) (by have := M.out.len; omega) ?_
                         intro out1 A1 c1 w9 ho1 hown1 hb9
                         have HO1 := Lib.hid ho1
                         have S9 := Lib.hid (S11.out.push hown1 hb9)
                         clear ho1 hown1 hb9)
                      | fail)
                    go_roundw
                    case rel => exact ⟨i', n', j', m', out1, A1, c1, rfl, S9.out, by rw [HO1.out]; exact MN.out.1⟩
                    case measure => rw [S9.out.left, S.out.left]; exact MN.out.2
                  · go_wp2_with fail
                    refine (GKX.out _ S.out).mono ?_
                    rintro e w4 ⟨rfl, hs⟩
                    have S4 := Lib.hid hs; clear hs
                    go_wp2_with fail
                    refine (GKX.out _ S4.out).mono ?_
                    rintro e w5 ⟨rfl, hs⟩
                    have S5 := Lib.hid hs; clear hs
                    go_wp2_with fail
                    refine (GKY.out _ S5.out).mono ?_
                    rintro e w5b ⟨rfl, hs⟩
                    have S5b := Lib.hid hs; clear hs
                    go_wp2_with fail
                    refine (GLX.out _ S5b.out).mono ?_
                    rintro e w6 ⟨rfl, hs⟩
                    have S6 := Lib.hid hs; clear hs
                    go_wp2_with fail
                    refine (GLY.out _ S6.out).mono ?_
                    rintro e w6b ⟨rfl, hs⟩
                    have S6b := Lib.hid hs; clear hs
                    go_wp2_with fail
                    refine (GTX.out _ S6b.out).mono ?_
                    rintro e w7 ⟨rfl, i', n', hr, hp, hs⟩
                    have S7 := Lib.hid hs; clear hs
                    go_wp2_with fail
                    refine (GTY.out i' n' _ S7.out).mono ?_
                    rintro e w8 ⟨rfl, j', m', hr2, hp2, hs⟩
                    have S8 := Lib.hid hs; clear hs
                    have S11 := Lib.hid (S8.out.below (((Below.refl w8.heap.size w8).alloc (Nat.le_refl _) (Obj.cells #[.int .i64 1, .int .i64 xn, .string (bstr xt)] 54)).alloc (by simp) (Obj.cells #[.int .i64 3, .int .i64 yn, .string (bstr yt)] 54)))
                    have MN := Lib.hid (GM.out i' n' j' m' [] hr hp hr2 hp2 (by simp))
                    clear hr hp hr2 hp2
                    go_wp2
                    go_roundw
                    case rel => exact ⟨i', n', j', m', oo, A0, c0, rfl, S11.out, by have := MN.out.1; rwa [List.append_nil] at this⟩
                    case measure => rw [S11.out.left, S.out.left]; exact MN.out.2
                  · have hqp : k ≤ p := by omega
                    go_wp2_with fail
                    refine (GKX.out _ S.out).mono ?_
                    rintro e w4 ⟨rfl, hs⟩
                    have S4 := Lib.hid hs; clear hs
                    go_wp2_with fail
                    refine (GKX.out _ S4.out).mono ?_
                    rintro e w5 ⟨rfl, hs⟩
                    have S5 := Lib.hid hs; clear hs
                    go_wp2_with fail
                    refine (GKY.out _ S5.out).mono ?_
                    rintro e w5b ⟨rfl, hs⟩
                    have S5b := Lib.hid hs; clear hs
                    go_wp2_with fail
                    refine (GLX.out _ S5b.out).mono ?_
                    rintro e w6 ⟨rfl, hs⟩
                    have S6 := Lib.hid hs; clear hs
                    go_wp2_with fail
                    refine (GLY.out _ S6.out).mono ?_
                    rintro e w6b ⟨rfl, hs⟩
                    have S6b := Lib.hid hs; clear hs
                    go_wp2_with fail
                    refine (GTX.out _ S6b.out).mono ?_
                    rintro e w7 ⟨rfl, i', n', hr, hp, hs⟩
                    have S7 := Lib.hid hs; clear hs
                    go_wp2_with fail
                    refine (GTY.out i' n' _ S7.out).mono ?_
                    rintro e w8 ⟨rfl, j', m', hr2, hp2, hs⟩
                    have S8 := Lib.hid hs; clear hs
                    have S11 := Lib.hid (S8.out.below (((Below.refl w8.heap.size w8).alloc (Nat.le_refl _) (Obj.cells #[.int .i64 1, .int .i64 xn, .string (bstr xt)] 54)).alloc (by simp) (Obj.cells #[.int .i64 3, .int .i64 yn, .string (bstr yt)] 54)))
                    have MN := Lib.hid (GM.out i' n' j' m' [] hr hp hr2 hp2 (by simp))
                    clear hr hp hr2 hp2
                    go_wp2
                    go_roundw
                    case rel => exact ⟨i', n', j', m', oo, A0, c0, rfl, S11.out, by have := MN.out.1; rwa [List.append_nil] at this⟩
                    case measure => rw [S11.out.left, S.out.left]; exact MN.out.2
                  · go_wp2_with fail
                    refine (GKX.out _ S.out).mono ?_
                    rintro e w4 ⟨rfl, hs⟩
                    have S4 := Lib.hid hs; clear hs
                    go_wp2_with fail
                    refine (GKX.out _ S4.out).mono ?_
                    rintro e w5 ⟨rfl, hs⟩
                    have S5 := Lib.hid hs; clear hs
                    go_wp2_with fail
                    refine (GKY.out _ S5.out).mono ?_
                    rintro e w5b ⟨rfl, hs⟩
                    have S5b := Lib.hid hs; clear hs
                    go_wp2_with fail
                    refine (GLX.out _ S5b.out).mono ?_
                    rintro e w6 ⟨rfl, hs⟩
                    have S6 := Lib.hid hs; clear hs
                    go_wp2_with fail
                    refine (GLY.out _ S6.out).mono ?_
                    rintro e w6b ⟨rfl, hs⟩
                    have S6b := Lib.hid hs; clear hs
                    go_wp2_with fail
                    refine (GTX.out _ S6b.out).mono ?_
                    rintro e w7 ⟨rfl, i', n', hr, hp, hs⟩
                    have S7 := Lib.hid hs; clear hs
                    go_wp2_with fail
                    refine (GTY.out i' n' _ S7.out).mono ?_
                    rintro e w8 ⟨rfl, j', m', hr2, hp2, hs⟩
                    have S8 := Lib.hid hs; clear hs
                    have S11 := Lib.hid (S8.out.below (((Below.refl w8.heap.size w8).alloc (Nat.le_refl _) (Obj.cells #[.int .i64 3, .int .i64 xn, .string (bstr xt)] 54)).alloc (by simp) (Obj.cells #[.int .i64 1, .int .i64 yn, .string (bstr yt)] 54)))
                    have MN := Lib.hid (GM.out i' n' j' m' [⟨3, xn, xt⟩] hr hp hr2 hp2 (by simp))
                    clear hr hp hr2 hp2
                    go_wp2_with (first
                      | (at_builtin
                         refine wpList_pushB rfl (.tmp 57) (.tmp 59) rfl base (.slice A0 oo.length c0) oo ⟨3, xn, xt⟩ rfl S11.out.own S11.out.size (Eq.trans (rfl : _ = Value.slice (some ⟨w8.heap.size + 1 + 1, 0, none⟩) 1 1) (by simp)) (by have := M.out.len; omega) ?_
                         intro out1 A1 c1 w9 ho1 hown1 hb9
                         have HO1 := Lib.hid ho1
                         have S9 := Lib.hid (S11.out.push hown1 hb9)
                         clear ho1 hown1 hb9)
                      | fail)
                    go_roundw
                    case rel => exact ⟨i', n', j', m', out1, A1, c1, rfl, S9.out, by rw [HO1.out]; exact MN.out.1⟩
                    case measure => rw [S9.out.left, S.out.left]; exact MN.out.2
                  · have hqp : k ≤ p := by omega
                    go_wp2_with fail
                    refine (GKX.out _ S.out).mono ?_
                    rintro e w4 ⟨rfl, hs⟩
                    have S4 := Lib.hid hs; clear hs
                    go_wp2_with fail
                    refine (GKX.out _ S4.out).mono ?_
                    rintro e w5 ⟨rfl, hs⟩
                    have S5 := Lib.hid hs; clear hs
                    go_wp2_with fail
                    refine (GKY.out _ S5.out).mono ?_
                    rintro e w5b ⟨rfl, hs⟩
                    have S5b := Lib.hid hs; clear hs
                    go_wp2_with fail
                    refine (GLX.out _ S5b.out).mono ?_
                    rintro e w6 ⟨rfl, hs⟩
                    have S6 := Lib.hid hs; clear hs
                    go_wp2_with fail
                    refine (GLY.out _ S6.out).mono ?_
                    rintro e w6b ⟨rfl, hs⟩
                    have S6b := Lib.hid hs; clear hs
                    go_wp2_with fail
                    refine (GTX.out _ S6b.out).mono ?_
                    rintro e w7 ⟨rfl, i', n', hr, hp, hs⟩
                    have S7 := Lib.hid hs; clear hs
                    go_wp2_with fail
                    refine (GTY.out i' n' _ S7.out).mono ?_
                    rintro e w8 ⟨rfl, j', m', hr2, hp2, hs⟩
                    have S8 := Lib.hid hs; clear hs
                    have S11 := Lib.hid (S8.out.below (((Below.refl w8.heap.size w8).alloc (Nat.le_refl _) (Obj.cells #[.int .i64 3, .int .i64 xn, .string (bstr xt)] 54)).alloc (by simp) (Obj.cells #[.int .i64 1, .int .i64 yn, .string (bstr yt)] 54)))
                    have MN := Lib.hid (GM.out i' n' j' m' [⟨3, xn, xt⟩] hr hp hr2 hp2 (by simp))
                    clear hr hp hr2 hp2
                    go_wp2_with (first
                      | (at_builtin
                         refine wpList_pushB rfl (.tmp 57) (.tmp 59) rfl base (.slice A0 oo.length c0) oo ⟨3, xn, xt⟩ rfl S11.out.own S11.out.size (Eq.trans (rfl : _ = Value.slice (some ⟨w8.heap.size + 1 + 1, 0, none⟩) 1 1) (by simp)) (by have := M.out.len; omega) ?_
                         intro out1 A1 c1 w9 ho1 hown1 hb9
                         have HO1 := Lib.hid ho1
                         have S9 := Lib.hid (S11.out.push hown1 hb9)
                         clear ho1 hown1 hb9)
                      | fail)
                    go_roundw
                    case rel => exact ⟨i', n', j', m', out1, A1, c1, rfl, S9.out, by rw [HO1.out]; exact MN.out.1⟩
                    case measure => rw [S9.out.left, S.out.left]; exact MN.out.2
                  · go_wp2_with fail
                    refine (GKX.out _ S.out).mono ?_
                    rintro e w4 ⟨rfl, hs⟩
                    have S4 := Lib.hid hs; clear hs
                    go_wp2_with fail
                    refine (GKX.out _ S4.out).mono ?_
                    rintro e w5 ⟨rfl, hs⟩
                    have S5 := Lib.hid hs; clear hs
                    go_wp2_with fail
                    refine (GKY.out _ S5.out).mono ?_
                    rintro e w5b ⟨rfl, hs⟩
                    have S5b := Lib.hid hs; clear hs
                    go_wp2_with fail
                    refine (GLX.out _ S5b.out).mono ?_
                    rintro e w6 ⟨rfl, hs⟩
                    have S6 := Lib.hid hs; clear hs
                    go_wp2_with fail
                    refine (GLY.out _ S6.out).mono ?_
                    rintro e w6b ⟨rfl, hs⟩
                    have S6b := Lib.hid hs; clear hs
                    go_wp2_with fail
                    refine (GTX.out _ S6b.out).mono ?_
                    rintro e w7 ⟨rfl, i', n', hr, hp, hs⟩
                    have S7 := Lib.hid hs; clear hs
                    go_wp2_with fail
                    refine (GTY.out i' n' _ S7.out).mono ?_
                    rintro e w8 ⟨rfl, j', m', hr2, hp2, hs⟩
                    have S8 := Lib.hid hs; clear hs
                    have S11 := Lib.hid (S8.out.below (((Below.refl w8.heap.size w8).alloc (Nat.le_refl _) (Obj.cells #[.int .i64 3, .int .i64 xn, .string (bstr xt)] 54)).alloc (by simp) (Obj.cells #[.int .i64 3, .int .i64 yn, .string (bstr yt)] 54)))
                    have MN := Lib.hid (GM.out i' n' j' m' [] hr hp hr2 hp2 (by simp))
                    clear hr hp hr2 hp2
                    go_wp2
                    go_roundw
                    case rel => exact ⟨i', n', j', m', oo, A0, c0, rfl, S11.out, by have := MN.out.1; rwa [List.append_nil] at this⟩
                    case measure => rw [S11.out.left, S.out.left]; exact MN.out.2
                  · have hqp : k ≤ p := by omega
                    go_wp2_with fail
                    refine (GKX.out _ S.out).mono ?_
                    rintro e w4 ⟨rfl, hs⟩
                    have S4 := Lib.hid hs; clear hs
                    go_wp2_with fail
                    refine (GKX.out _ S4.out).mono ?_
                    rintro e w5 ⟨rfl, hs⟩
                    have S5 := Lib.hid hs; clear hs
                    go_wp2_with fail
                    refine (GKY.out _ S5.out).mono ?_
                    rintro e w5b ⟨rfl, hs⟩
                    have S5b := Lib.hid hs; clear hs
                    go_wp2_with fail
                    refine (GLX.out _ S5b.out).mono ?_
                    rintro e w6 ⟨rfl, hs⟩
                    have S6 := Lib.hid hs; clear hs
                    go_wp2_with fail
                    refine (GLY.out _ S6.out).mono ?_
                    rintro e w6b ⟨rfl, hs⟩
                    have S6b := Lib.hid hs; clear hs
                    go_wp2_with fail
                    refine (GTX.out _ S6b.out).mono ?_
                    rintro e w7 ⟨rfl, i', n', hr, hp, hs⟩
                    have S7 := Lib.hid hs; clear hs
                    go_wp2_with fail
                    refine (GTY.out i' n' _ S7.out).mono ?_
                    rintro e w8 ⟨rfl, j', m', hr2, hp2, hs⟩
                    have S8 := Lib.hid hs; clear hs
                    have S11 := Lib.hid (S8.out.below (((Below.refl w8.heap.size w8).alloc (Nat.le_refl _) (Obj.cells #[.int .i64 3, .int .i64 xn, .string (bstr xt)] 54)).alloc (by simp) (Obj.cells #[.int .i64 3, .int .i64 yn, .string (bstr yt)] 54)))
                    have MN := Lib.hid (GM.out i' n' j' m' [] hr hp hr2 hp2 (by simp))
                    clear hr hp hr2 hp2
                    go_wp2
                    go_roundw
                    case rel => exact ⟨i', n', j', m', oo, A0, c0, rfl, S11.out, by have := MN.out.1; rwa [List.append_nil] at this⟩
                    case measure => rw [S11.out.left, S.out.left]; exact MN.out.2
      · have HE : Hid (∀ w', OverEnd f a b w (.returned (.tuple #[.slice none 0 0, .int .i64 11])) w') := fun w' => .inr (.inr (.inl ⟨HEA.out, HEB.out, by rw [HXO.out, HXI.out]; exact h3, rfl⟩))
        have q3 : (xo != xi) = true := bne_iff_ne.2 h3
        have q4 : (xo == xi) = false := beq_eq_false_iff_ne.2 h3
        clear HEA HEB HXO HXI
        go_enter Try.func11, Try.ntmps11
        go_wp2_with fail
        refine (GA.out _ HA.out).mono ?_
        rintro e w1 ⟨rfl, hb⟩
        have HB1 := Lib.hid hb; clear hb
        go_wp2_with fail
        refine (GB.out _ (HB.out.below HB1.out)).mono ?_
        rintro e w2 ⟨rfl, hb⟩
        have HB2 : Hid (Below w.heap.size w w2) := HB1.out.trans (hb.mono HB1.out.size); clear hb
        go_wp2_with fail
        refine (GO.out _ (HA.out.below HB2.out)).mono ?_
        rintro e w2' ⟨rfl, rfl⟩
        go_wp2_with fail
        refine (GI.out _ (HB.out.below HB2.out)).mono ?_
        rintro e w2' ⟨rfl, rfl⟩
        go_wp2
        go_ret2
        exact ⟨HE.out _, HB2.out⟩
    · have HE : Hid (∀ w', OverEnd f a b w (.returned (.tuple #[.slice none 0 0, .int .i64 (eb : Int)])) w') := fun w' => .inr (.inl ⟨HEA.out, by rw [HEB.out]; exact h2, by rw [HEB.out]⟩)
      have q3 : ((eb : Int) != 0) = true := bne_iff_ne.2 (by omega)
      have q4 : ((eb : Int) == 0) = false := beq_eq_false_iff_ne.2 (by omega)
      clear HEA HEB HXO HXI
      go_enter Try.func11, Try.ntmps11
      go_wp2_with fail
      refine (GA.out _ HA.out).mono ?_
      rintro e w1 ⟨rfl, hb⟩
      have HB1 := Lib.hid hb; clear hb
      go_wp2_with fail
      refine (GB.out _ (HB.out.below HB1.out)).mono ?_
      rintro e w2 ⟨rfl, hb⟩
      have HB2 : Hid (Below w.heap.size w w2) := HB1.out.trans (hb.mono HB1.out.size); clear hb
      go_wp2
      go_ret2
      exact ⟨HE.out _, HB2.out⟩
  · have HE : Hid (∀ w', OverEnd f a b w (.returned (.tuple #[.slice none 0 0, .int .i64 (ea : Int)])) w') := fun w' => .inl ⟨by rw [HEA.out]; exact h1, by rw [HEA.out]⟩
    have q3 : ((ea : Int) != 0) = true := bne_iff_ne.2 (by omega)
    have q4 : ((ea : Int) == 0) = false := beq_eq_false_iff_ne.2 (by omega)
    clear HEA HEB HXO HXI
    go_enter Try.func11, Try.ntmps11
    go_wp2_with fail
    refine (GA.out _ HA.out).mono ?_
    rintro e w1 ⟨rfl, hb⟩
    have HB1 := Lib.hid hb; clear hb
    go_wp2
    go_ret2
    exact ⟨HE.out _, HB1.out⟩
end Go.Proofs.Ytnadhpajelkngaa

/- The landed Keep, and the document's own, with their slice's room. No condition. -/
namespace Go.Proofs.Ytnadhpajelkngaa
open Go.RowKit Go.Deep

theorem opKeepC_any (n : Int) (w : World) :
    Calls Try.prog 67 #[.int .i64 n] w fun e w' => ∃ A c, e = .returned (.slice A (keepL n).length c) ∧ CompsC w' A c (keepL n) ∧ Below w.heap.size w w' := by
  by_cases h : n < 1
  · have HK : Hid (keepL n = []) := if_pos h
    rw [HK.out]
    go_enter Try.func67, Try.ntmps67
    go_wp2
    go_ret
    exact ⟨none, 0, rfl, ⟨.inl rfl, Nat.le_refl _⟩, Below.refl _ _⟩
  · have HK : Hid (keepL n = [⟨1, n, []⟩]) := if_neg h
    rw [HK.out]
    have GR := Lib.hid (fun w => opRetain_any n w)
    go_enter Try.func67, Try.ntmps67
    go_wp2_with fail
    refine (GR.out _).mono ?_
    rintro e w1 ⟨rfl, hb1⟩
    have HB1 := Lib.hid hb1; clear hb1
    go_wp2
    go_ret
    refine ⟨some ⟨w1.heap.size, 0, none⟩, 1, rfl, ⟨CellsAt.lit (fun j v hj => ?_) rfl, Nat.le_refl _⟩, HB1.out.alloc HB1.out.size _⟩
    match j, hj with
    | 0, hj => cases hj; rfl
    | 1, hj => cases hj; rfl
    | 2, hj => cases hj; rfl
end Go.Proofs.Ytnadhpajelkngaa

/- The document's own Two, Over and All, told by functions. Conditions: what memory may hold. -/
namespace Go.Proofs.Ytnadhpajelkngaa
open Go.RowKit Go.Deep

/-- What is told of an edit that was made, or of an error. -/
def Told (r : List CompV × Nat) (w : World) (e : Ending) (w' : World) : Prop :=
  (∃ A c, e = .returned (.tuple #[.slice A r.1.length c, .int .i64 (r.2 : Int)]) ∧ w'.ownsRow w.heap.size 54 3 (.slice A r.1.length c) r.1.length (r.1.flatMap compCells)) ∧ Held1 r.1 ∧ Below w.heap.size w w'
theorem told_no {e : Ending} {w w' : World} {q : Nat} (h : e = .returned (.tuple #[.slice none 0 0, .int .i64 (q : Int)])) (hb : Below w.heap.size w w') : Told ([], q) w e w' :=
  ⟨⟨none, 0, h, World.ownsRow_nil _ _ _ _⟩, held_nil, hb⟩
theorem refOver_told (A : Option Addr) (ca : Nat) (a : List CompV) (B : Option Addr) (cb : Nat) (b : List CompV) (hla : a.length ≤ maxLen) (hlb : b.length ≤ maxLen) (hfa : Fine1 a) (hfb : Fine1 b) (f : Bool) (w : World) (hA : CompsAt w A a) (hB : CompsAt w B b) :
    Calls Try.prog 11 #[.slice A a.length ca, .slice B b.length cb, .bool f] w fun e w' => Told (rOver f a b) w e w' := by
  refine (refOver_any A ca a B cb b hla hlb hfa hfb f w hA hB).mono ?_
  rintro e w' ⟨⟨h1, rfl⟩ | ⟨h1, h2, rfl⟩ | ⟨h1, h2, h3, rfl⟩ | ⟨h1, h2, h3, o, ho, hs, hl, A', c', rfl, hown⟩, hb⟩
  · rw [rOver, if_pos h1]; exact told_no rfl hb
  · rw [rOver, if_neg (by omega), if_pos h2]; exact told_no rfl hb
  · rw [rOver, if_neg (by omega), if_neg (by omega), if_pos h3]; exact told_no rfl hb
  · rw [rOver_yes h1 h2 h3 ho]
    exact ⟨⟨A', c', rfl, hown⟩, (ov_held h1 h2 h3 ho hs hl).1, hb⟩
theorem keep_held {n : Int} (h : Fit64 n) : Held1 (keepL n) := by
  unfold keepL
  split
  · exact held_nil
  · refine ⟨fun y hy => ?_, by show 1 ≤ _; omega, by show 0 ≤ _; omega⟩
    rw [List.mem_singleton.1 hy]
    exact ⟨by unfold Fit64; simp, h, fun x hx => (by cases hx), Nat.zero_le _⟩
/-- What is told of a row of edits as one. -/
def AllTold (r : List CompV × Nat) (w : World) (e : Ending) (w' : World) : Prop :=
  (∃ A c, e = .returned (.tuple #[.slice A r.1.length c, .int .i64 (r.2 : Int)]) ∧ CompsC w' A c r.1) ∧ Held1 r.1 ∧ Below w.heap.size w w'
end Go.Proofs.Ytnadhpajelkngaa
