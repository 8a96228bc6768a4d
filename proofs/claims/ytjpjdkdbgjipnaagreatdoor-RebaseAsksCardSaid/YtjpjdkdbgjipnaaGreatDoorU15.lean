/- The document's own Over: one edit behind another one of the same text. Conditions: what memory may hold. (Merged of 3 texts.) -/
import Derived.Test.YtjpjdkdbgjipnaaGreatDoorU14
import Derived.Test.YtjpjdkdbgjipnaaGreatDoorU42
import Derived.Test.YtjpjdkdbgjipnaaGreatDoorU5
import Derived.Deep.DeepCutAuto
namespace Go.Proofs.YtjpjdkdbgjipnaaGreatDoor
open Go.RowKit Go.Deep
structure EdF (l : List CompV) : Prop where
 wh : ∀ c ∈ l, Wh c
 fine : Fine1 l
 len : l.length ≤ 100
 top : ∀ c ∈ l, sz c ≤ 4000
 all : wt l ≤ 4000
theorem edF_of {l : List CompV} (h : rCheck l = 0) (hf : Fine1 l) : EdF l := by
 have k := ok_of h
 have h1 := wt_in l k.wh
 have h2 := k.base1; have h3 := k.out1
 exact ⟨k.wh, hf, k.len, fun c hc => by have := h1.2 c hc; omega, by have := h1.1; omega⟩
theorem yy415 {l : List CompV} {i n : Nat} {c : CompV} {r : List CompV} (h : rest l i n = c :: r) : ∃ hi : i < l.length, c = cut l[i] n ∧ r = l.drop (i + 1) := by
 rcases Nat.lt_or_ge i l.length with hi | hi
 ·rw [yy251 hi] at h
  injection h with h1 h2
  exact ⟨hi, h1.symm, h2.symm⟩
 ·rw [rest_end hi] at h
  cases h
theorem yy188 {B g : Nat} {l : List CompV} (f : EdF l) {i n : Nat} (p : Pos l i n) (w : World) (h : WalkAt B g l i n w) :
  Calls Tryz.prog 51 #[.pointer (some ⟨g, 0, none⟩)] w fun e w' => e = .returned (.int .i64 (kd (rest l i n))) ∧ Below w.heap.size w w' := by
 rw [yy598]
 exact yy358 B g l (by have := f.len; omega) i n p.le w h
theorem yy189 {B g : Nat} {l : List CompV} (f : EdF l) {i n : Nat} (p : Pos l i n) {c : CompV} {r : List CompV} (hr : rest l i n = c :: r) (w : World) (h : WalkAt B g l i n w) :
  Calls Tryz.prog 53 #[.pointer (some ⟨g, 0, none⟩)] w fun e w' => e = .returned (.int .i64 (sz c : Int)) ∧ Below w.heap.size w w' := by
 obtain ⟨hi, hc, _⟩ := yy415 hr
 have wc := f.wh _ (List.getElem_mem hi)
 have hn := p.at_ hi
 have hs := (cut_wh wc hn).2
 rw [← hc] at hs
 have hf := f.fine _ (List.getElem_mem hi)
 have hz := yy411 wc
 have := yy224 B g l (by have := f.len; omega) i n hi hf.1 hf.2 (fun h2 => by rcases wc.cases with g | g | g <;> first | omega | exact g.2.2.2) (by rw [hz]; omega) w h
 rw [hz, show ((sz l[i] : Int) - (n : Int)) = (sz c : Int) by omega] at this
 exact this
theorem yy190 {B g : Nat} {l : List CompV} (f : EdF l) {i n : Nat} (p : Pos l i n) {c : CompV} {r : List CompV} (hr : rest l i n = c :: r) (k : Nat) (h0 : 0 < k) (hk : k ≤ sz c) (w : World) (h : WalkAt B g l i n w) :
  Calls Tryz.prog 52 #[.pointer (some ⟨g, 0, none⟩), .int .i64 (k : Int)] w fun e w' =>
   e = .returned (.agg #[.int .i64 (piece c k).kind, .int .i64 (piece c k).n, .string (bstr (piece c k).text)]) ∧
   (∃ i' n', rest l i' n' = chop c r k ∧ Pos l i' n' ∧ WalkAt B g l i' n' w') ∧ Only g w w' := by
 obtain ⟨hi, hc, hd⟩ := yy415 hr
 have wc := f.wh _ (List.getElem_mem hi)
 have hn := p.at_ hi
 have hs := (cut_wh wc hn).2
 rw [← hc] at hs
 have hf := f.fine _ (List.getElem_mem hi)
 have ht := f.top _ (List.getElem_mem hi)
 have hx := yy599 f.wh hi hn h0 (by omega)
 rw [← hc, ← hd] at hx
 have := yy359 B g l (by have := f.len; omega) i n k hi wc hf.1 hf.2 (by omega) h0 (by omega) (by omega) w h
 rw [← hc] at this
 exact this.mono fun e w' ⟨h1, h2, h3⟩ => ⟨h1, ⟨_, _, hx.1, hx.2, h2⟩, h3⟩
namespace St
variable {B gx gy base : Nat} {a b : List CompV} {w0 w : World} {i n j m : Nat} {o : List CompV} {A : Option Addr} {c : Nat}
theorem kindX (s : St B gx gy base a b w0 i n j m o A c w) (f : EdF a) (p : Pos a i n) :
  Calls Tryz.prog 51 #[.pointer (some ⟨gx, 0, none⟩)] w fun e w' => e = .returned (.int .i64 (kd (rest a i n))) ∧ St B gx gy base a b w0 i n j m o A c w' :=
 (yy188 f p w s.wx).mono fun _ _ ⟨h1, h2⟩ => ⟨h1, s.below h2⟩
theorem kindY (s : St B gx gy base a b w0 i n j m o A c w) (f : EdF b) (p : Pos b j m) :
  Calls Tryz.prog 51 #[.pointer (some ⟨gy, 0, none⟩)] w fun e w' => e = .returned (.int .i64 (kd (rest b j m))) ∧ St B gx gy base a b w0 i n j m o A c w' :=
 (yy188 f p w s.wy).mono fun _ _ ⟨h1, h2⟩ => ⟨h1, s.below h2⟩
theorem leftX (s : St B gx gy base a b w0 i n j m o A c w) (f : EdF a) (p : Pos a i n) {x : CompV} {r : List CompV} (hr : rest a i n = x :: r) :
  Calls Tryz.prog 53 #[.pointer (some ⟨gx, 0, none⟩)] w fun e w' => e = .returned (.int .i64 (sz x : Int)) ∧ St B gx gy base a b w0 i n j m o A c w' :=
 (yy189 f p hr w s.wx).mono fun _ _ ⟨h1, h2⟩ => ⟨h1, s.below h2⟩
theorem leftY (s : St B gx gy base a b w0 i n j m o A c w) (f : EdF b) (p : Pos b j m) {x : CompV} {r : List CompV} (hr : rest b j m = x :: r) :
  Calls Tryz.prog 53 #[.pointer (some ⟨gy, 0, none⟩)] w fun e w' => e = .returned (.int .i64 (sz x : Int)) ∧ St B gx gy base a b w0 i n j m o A c w' :=
 (yy189 f p hr w s.wy).mono fun _ _ ⟨h1, h2⟩ => ⟨h1, s.below h2⟩
theorem takenX (s : St B gx gy base a b w0 i n j m o A c w) (f : EdF a) (p : Pos a i n) {x : CompV} {r : List CompV} (hr : rest a i n = x :: r) (k : Nat) (h0 : 0 < k) (hk : k ≤ sz x) :
  Calls Tryz.prog 52 #[.pointer (some ⟨gx, 0, none⟩), .int .i64 (k : Int)] w fun e w' =>
   e = .returned (.agg #[.int .i64 (piece x k).kind, .int .i64 (piece x k).n, .string (bstr (piece x k).text)]) ∧ ∃ i' n', rest a i' n' = chop x r k ∧ Pos a i' n' ∧ St B gx gy base a b w0 i' n' j m o A c w' :=
 (yy190 f p hr k h0 hk w s.wx).mono fun _ _ ⟨h1, ⟨i', n', h2, h3, h4⟩, h5⟩ => ⟨h1, i', n', h2, h3, s.takeX h4 h5⟩
theorem takenY (s : St B gx gy base a b w0 i n j m o A c w) (f : EdF b) (p : Pos b j m) {x : CompV} {r : List CompV} (hr : rest b j m = x :: r) (k : Nat) (h0 : 0 < k) (hk : k ≤ sz x) :
  Calls Tryz.prog 52 #[.pointer (some ⟨gy, 0, none⟩), .int .i64 (k : Int)] w fun e w' =>
   e = .returned (.agg #[.int .i64 (piece x k).kind, .int .i64 (piece x k).n, .string (bstr (piece x k).text)]) ∧ ∃ j' m', rest b j' m' = chop x r k ∧ Pos b j' m' ∧ St B gx gy base a b w0 i n j' m' o A c w' :=
 (yy190 f p hr k h0 hk w s.wy).mono fun _ _ ⟨h1, ⟨i', n', h2, h3, h4⟩, h5⟩ => ⟨h1, i', n', h2, h3, s.takeY h4 h5⟩
end St
theorem yy288 {l : List CompV} (f : EdF l) {i n : Nat} (p : Pos l i n) : ∀ c ∈ rest l i n, sz c ≤ 4000 := by
 intro c hc
 rcases Nat.lt_or_ge i l.length with hi | hi
 ·rw [yy251 hi] at hc
  rcases List.mem_cons.1 hc with rfl | hc
  ·have := (cut_wh (f.wh _ (List.getElem_mem hi)) (p.at_ hi)).2
   have := f.top _ (List.getElem_mem hi)
   omega
  ·exact f.top c (List.mem_of_mem_drop hc)
 ·rw [rest_end hi] at hc
  cases hc
theorem yy449 {c : CompV} (h : Wh c) (hs : sz c ≤ 4000) : Small1 c := by
 have := yy178 h (k := sz c) hs
 rwa [yy78 h] at this
theorem yy528 {A : Option Addr} {c : Nat} {l : List CompV} {w w' : World} {B g : Nat} (h : yy8 w A l) (hB : B = w.heap.size) (hb : Below B w w') (hg : w'.heap[g]? = some (.cells #[.slice A l.length c, .int .i64 0, .int .i64 0] 103 (0, 0))) (hge : B ≤ g) : WalkAt B g l 0 0 w' := by
 subst hB
 refine ⟨A, c, ⟨_, hg, rfl, fun i hi => ?_⟩, h.below hb, fun h0 => h.form h0, hge⟩
 have : i = 0 ∨ i = 1 ∨ i = 2 := by omega
 rcases this with rfl | rfl | rfl <;> rfl
structure TwoM (a b : List CompV) (i n j m : Nat) (o : List CompV) : Prop where
 px : Pos a i n
 py : Pos b j m
 go : ∀ o', Cmp (rest a i n) (rest b j m) o' → Cmp a b (o ++ o')
 fit : outS (rest a i n) = inS (rest b j m)
 small : ∀ x ∈ o, Small1 x
 len : o.length + (wt (rest a i n) + wt (rest b j m)) ≤ 8000
namespace TwoM
variable {a b : List CompV} {i n j m i' n' j' m' k : Nat} {o ra rb : List CompV} {x y : CompV}
end TwoM
def yy252 (f : Bool) (a b : List CompV) (w : World) (e : Ending) (w' : World) : Prop :=
 (rCheck a ≠ 0 ∧ e = .returned (.tuple #[.slice none 0 0, .int .i64 (rCheck a : Int)])) ∨
 (rCheck a = 0 ∧ rCheck b ≠ 0 ∧ e = .returned (.tuple #[.slice none 0 0, .int .i64 (rCheck b : Int)])) ∨
 (rCheck a = 0 ∧ rCheck b = 0 ∧ rBase a ≠ rBase b ∧ e = .returned (.tuple #[.slice none 0 0, .int .i64 11])) ∨
 (rCheck a = 0 ∧ rCheck b = 0 ∧ rBase a = rBase b ∧ ∃ o, Ov f a b o ∧ (∀ x ∈ o, Small1 x) ∧ o.length ≤ 8000 ∧ ∃ A c, e = .returned (.tuple #[.slice A (yy19 o).length c, .int .i64 0]) ∧
  w'.ownsRow w.heap.size 60 3 (.slice A (yy19 o).length c) (yy19 o).length ((yy19 o).flatMap yy2))
structure OvM (f : Bool) (a b : List CompV) (i n j m : Nat) (o : List CompV) : Prop where
 px : Pos a i n
 py : Pos b j m
 go : ∀ o', Ov f (rest a i n) (rest b j m) o' → Ov f a b (o ++ o')
 fit : inS (rest a i n) = inS (rest b j m)
 small : ∀ x ∈ o, Small1 x
 len : o.length + (wt (rest a i n) + wt (rest b j m)) ≤ 8000
namespace OvM
variable {f : Bool} {a b : List CompV} {i n j m i' n' j' m' k : Nat} {o ra rb : List CompV} {x y : CompV}
theorem puts (M : OvM f a b i n j m o) (fa : EdF a) (hra : rest a i n = x :: ra) (hk : x.kind = 2) (hf2 : f = true ∨ kd (rest b j m) ≠ 2) (hr : rest a i' n' = ra) (hp : Pos a i' n') :
  OvM f a b i' n' j m (o ++ [x]) ∧ wt (rest a i' n') + wt (rest b j m) < wt (rest a i n) + wt (rest b j m) := by
 have hx : x ∈ rest a i n := by rw [hra]; simp
 have wx := yy74 fa.wh M.px x hx
 have hf := M.fit; have hl := M.len; have h0 := wx.sz
 rw [hra, yy127] at hl
 rw [hra, yy28, in_two hk, Nat.zero_add] at hf
 rw [hra, hr, yy127]
 refine ⟨⟨hp, M.py, fun o' h => ?_, by rw [hr]; exact hf, yy314 M.small (yy449 wx (yy288 fa M.px x hx)), by rw [List.length_append, hr]; simp; omega⟩, by omega⟩
 rw [hr] at h
 rw [List.append_assoc]
 exact M.go _ (by rw [hra]; exact .puts x ra _ _ hk hf2 h)
theorem pass (M : OvM f a b i n j m o) (fb : EdF b) (hrb : rest b j m = y :: rb) (hk : y.kind = 2) (h3 : ¬ (kd (rest a i n) = 2 ∧ f = true)) (hr : rest b j' m' = rb) (hp : Pos b j' m') :
  OvM f a b i n j' m' (o ++ [⟨1, (sz y : Int), []⟩]) ∧ wt (rest a i n) + wt (rest b j' m') < wt (rest a i n) + wt (rest b j m) := by
 have hy : y ∈ rest b j m := by rw [hrb]; simp
 have wy := yy74 fb.wh M.py y hy
 have hf := M.fit; have hl := M.len; have h0 := wy.sz
 rw [hrb, yy127] at hl
 rw [hrb, yy28, in_two hk, Nat.zero_add] at hf
 rw [hrb, hr, yy127]
 refine ⟨⟨M.px, hp, fun o' h => ?_, by rw [hr]; exact hf, yy314 M.small (Nat.zero_le _), by rw [List.length_append, hr]; simp; omega⟩, by omega⟩
 rw [hr] at h
 rw [List.append_assoc]
 exact M.go _ (by rw [hrb]; exact .pass _ y rb _ h3 hk h)
theorem both (M : OvM f a b i n j m o) (fa : EdF a) (fb : EdF b) (hra : rest a i n = x :: ra) (hrb : rest b j m = y :: rb) (hx2 : x.kind ≠ 2) (hy2 : y.kind ≠ 2) (hk : k = min (sz x) (sz y))
  (hr : rest a i' n' = chop x ra k) (hp : Pos a i' n') (hr2 : rest b j' m' = chop y rb k) (hp2 : Pos b j' m') {e : List CompV} (he : e = if y.kind = 1 then [piece x k] else []) :
  OvM f a b i' n' j' m' (o ++ e) ∧ wt (rest a i' n') + wt (rest b j' m') < wt (rest a i n) + wt (rest b j m) := by
 have hx : x ∈ rest a i n := by rw [hra]; simp
 have hy : y ∈ rest b j m := by rw [hrb]; simp
 have wx := yy74 fa.wh M.px x hx
 have wy := yy74 fb.wh M.py y hy
 have hf := M.fit; have hl := M.len; have h0 := wx.sz; have h1 := wy.sz
 have cx := yy649 wx ra (k := k) (by omega)
 have cy := yy649 wy rb (k := k) (by omega)
 have kk := yy404 (a := ra) (b := rb) hx2 hy2 hk (by rw [← hra]; exact yy74 fa.wh M.px) (by rw [← hrb]; exact yy74 fb.wh M.py)
 have hia := kk.ia; have hib := kk.ib; have h0k := kk.pos
 rw [hra, hrb, yy127, yy127] at hl
 rw [hra, hrb, hia, hib] at hf
 rw [hra, hrb, hr, hr2, yy127, yy127]
 have sx := yy178 wx (k := k) (yy288 fa M.px x hx)
 have hel : e.length ≤ 1 ∧ ∀ z ∈ e, Small1 z := by
  rw [he]
  split
  ·exact ⟨Nat.le_refl _, fun z hz => by rw [List.mem_singleton.1 hz]; exact sx⟩
  ·exact ⟨Nat.zero_le _, fun z hz => by cases hz⟩
 refine ⟨⟨hp, hp2, fun o' h => ?_, by rw [hr, hr2]; omega, fun z hz => ?_, by rw [List.length_append, hr, hr2]; omega⟩, by omega⟩
 ·rw [hr, hr2] at h
  rw [List.append_assoc, he]
  exact M.go _ (by rw [hra, hrb]; exact .both x ra y rb o' k hx2 hy2 hk h)
 ·rcases List.mem_append.1 hz with hz | hz
  ·exact M.small z hz
  ·exact hel.2 z hz
end OvM
set_option maxHeartbeats 8000000 in
set_option maxRecDepth 100000 in
theorem yy450 (A : Option Addr) (ca : Nat) (a : List CompV) (B : Option Addr) (cb : Nat) (b : List CompV) (hla : a.length ≤ maxLen) (hlb : b.length ≤ maxLen) (hfa : Fine1 a) (hfb : Fine1 b) (f : Bool) (w : World) (hA : yy8 w A a) (hB : yy8 w B b) :
  Calls Tryz.prog 29 #[.slice A a.length ca, .slice B b.length cb, .bool f] w fun e w' => yy252 f a b w e w' ∧ Below w.heap.size w w' := by
 have GA := xh (fun w h => yy134 A ca a hla hfa w h)
 have GB := xh (fun w h => yy134 B cb b hlb hfb w h)
 have GO := xh (fun w h => yy170 A ca a hla w h)
 have GI := xh (fun w h => yy170 B cb b hlb w h)
 have HFA := xh hfa
 have HFB := xh hfb
 have HA := xh hA
 have HB := xh hB
 have HLA := xh hla
 have HLB := xh hlb
 clear hfa hfb hA hB hla hlb
 obtain ⟨ea, HEA⟩ : ∃ q, Hid (rCheck a = q) := ⟨_, xh rfl⟩
 obtain ⟨eb, HEB⟩ : ∃ q, Hid (rCheck b = q) := ⟨_, xh rfl⟩
 obtain ⟨xo, HXO⟩ : ∃ q, Hid (rBase a = q) := ⟨_, xh rfl⟩
 obtain ⟨xi, HXI⟩ : ∃ q, Hid (rBase b = q) := ⟨_, xh rfl⟩
 rw [HEA.out] at GA
 rw [HEB.out] at GB
 rw [HXO.out] at GO
 rw [HXI.out] at GI
 by_cases h1 : ea = 0
 ·subst h1
  by_cases h2 : eb = 0
  ·subst h2
   by_cases h3 : xo = xi
   ·subst h3
    have fa := xh (edF_of HEA.out HFA.out)
    have fb := xh (edF_of HEB.out HFB.out)
    have HFIT : Hid (inS a = inS b) := by
     show _ = _
     have e1 := (ok_of HEA.out).base
     have e2 := (ok_of HEB.out).base
     rw [HXO.out] at e1
     rw [HXI.out] at e2
     omega
    have HEND : Hid (∀ e w', (∃ o, Ov f a b o ∧ (∀ x ∈ o, Small1 x) ∧ o.length ≤ 8000 ∧ ∃ A c, e = .returned (.tuple #[.slice A (yy19 o).length c, .int .i64 0]) ∧
  w'.ownsRow w.heap.size 60 3 (.slice A (yy19 o).length c) (yy19 o).length ((yy19 o).flatMap yy2)) → yy252 f a b w e w') := fun e w' h => .inr (.inr (.inr ⟨HEA.out, HEB.out, by rw [HXO.out, HXI.out], h⟩))
    clear HEA HEB HXO HXI
    go_enter Tryz.func29, Tryz.ntmps29
    go_wp2_with fail
    refine (GA.out _ HA.out).mono ?_
    rintro e w1 ⟨rfl, hb⟩
    have HB1 := xh hb; clear hb
    go_wp2_with fail
    refine (GB.out _ (HB.out.below HB1.out)).mono ?_
    rintro e w2 ⟨rfl, hb⟩
    have HB2 : Hid (Below w.heap.size w w2) := HB1.out.trans (hb.mono HB1.out.size); clear hb
    go_wp2_with fail
    refine (GO.out _ (HA.out.below HB2.out)).mono ?_
    rintro e w2' ⟨rfl, rfl⟩
    go_wp2_with fail
    refine (GI.out _ (HB.out.below HB2.out)).mono ?_
    rintro e w2' ⟨rfl, rfl⟩
    go_wp2_with fail
    have HBN : Hid (Below w.heap.size w ((w2.alloc (Obj.cells #[Value.slice A a.length ca, .int .i64 0, .int .i64 0] 103)).alloc (Obj.cells #[Value.slice B b.length cb, .int .i64 0, .int .i64 0] 103))) :=
     (HB2.out.alloc HB2.out.size _).alloc (by have := HB2.out.size; simp; omega) _
    have S0 : Hid (St w.heap.size w2.heap.size (w2.heap.size + 1) (w2.heap.size + 2) a b w 0 0 0 0 [] none 0 ((w2.alloc (Obj.cells #[Value.slice A a.length ca, .int .i64 0, .int .i64 0] 103)).alloc (Obj.cells #[Value.slice B b.length cb, .int .i64 0, .int .i64 0] 103))) := by
     refine ⟨yy528 (c := ca) HA.out rfl HBN.out ?_ HB2.out.size, yy528 (c := cb) HB.out rfl HBN.out ?_ (by have := HB2.out.size; omega), World.ownsRow_nil _ _ _ _, HBN.out, by omega, by omega, by omega, by simp⟩
     ·rw [Below.heap_alloc _ _ _ (by simp)]; exact heap_alloc_new _ _
     ·exact (show (w2.alloc (Obj.cells #[Value.slice A a.length ca, .int .i64 0, .int .i64 0] 103)).heap.size = w2.heap.size + 1 by simp) ▸ heap_alloc_new _ _
    obtain ⟨gx, HGX⟩ : ∃ g, Hid (w2.heap.size = g) := ⟨_, xh rfl⟩
    rw [HGX.out] at S0 ⊢
    obtain ⟨gy, HGY⟩ : ∃ g, Hid (gx + 1 = g) := ⟨_, xh rfl⟩
    rw [HGY.out] at S0 ⊢
    obtain ⟨base, HBS⟩ : ∃ g, Hid (gx + 2 = g) := ⟨_, xh rfl⟩
    rw [HBS.out] at S0
    generalize ((w2.alloc (Obj.cells #[Value.slice A a.length ca, .int .i64 0, .int .i64 0] 103)).alloc (Obj.cells #[Value.slice B b.length cb, .int .i64 0, .int .i64 0] 103)) = w3 at S0 HBN ⊢
    clear HBN
    have M0 : Hid (OvM f a b 0 0 0 0 []) := by
     refine ⟨yy412 fa.out.wh, yy412 fb.out.wh, fun o' h => ?_, ?_, fun x hx => (by cases hx), ?_⟩
     ·rw [rest_start fa.out.wh, rest_start fb.out.wh] at h; exact h
     ·rw [rest_start fa.out.wh, rest_start fb.out.wh]; exact HFIT.out
     ·rw [rest_start fa.out.wh, rest_start fb.out.wh]; have := fa.out.all; have := fb.out.all; show 0 + _ ≤ _; omega
    go_loopw [11] (fun o wr => ∃ (i n j m : Nat) (oo : List CompV) (A0 : Option Addr) (c0 : Nat), o = .slice A0 oo.length c0 ∧ St w.heap.size gx gy base a b w i n j m oo A0 c0 wr ∧ OvM f a b i n j m oo) (fun _ wr => leftOf a b gx gy wr)
    case atStart => exact ⟨0, 0, 0, 0, [], none, 0, rfl, S0.out, M0.out⟩
    case round =>
     obtain ⟨i, n, j, m, oo, A0, c0, rfl, hs, hm⟩ := hrel
     have S := xh hs
     have M := xh hm
     clear hs hm S0 M0
     rcases hra : rest a i n with _ | ⟨x, ra⟩
     ·rcases hrb : rest b j m with _ | ⟨y, rb⟩
      ·have GKX := xh (fun (w' : World) (s : St w.heap.size gx gy base a b w i n j m oo A0 c0 w') => s.kindX fa.out M.out.px)
       rw [hra] at GKX
       simp only [kd] at GKX
       have GKY := xh (fun (w' : World) (s : St w.heap.size gx gy base a b w i n j m oo A0 c0 w') => s.kindY fb.out M.out.py)
       rw [hrb] at GKY
       simp only [kd] at GKY
       have hc := M.out.go [] (by rw [hra, hrb]; exact .nil)
       rw [List.append_nil] at hc
       have HC := xh hc; clear hc
       go_wp2_with fail
       refine (GKX.out _ S.out).mono ?_
       rintro e w4 ⟨rfl, hs⟩
       have S4 := xh hs; clear hs
       go_wp2_with fail
       refine (GKY.out _ S4.out).mono ?_
       rintro e w5 ⟨rfl, hs⟩
       have S5 := xh hs; clear hs
       have hln := M.out.len
       have htl := yy156 oo M.out.small
       have GN := xh (yy307 A0 c0 oo (by omega) (by omega) w5 (yy7.of_own S5.out.own))
       obtain ⟨L, HL⟩ : ∃ L, Hid (yy19 oo = L) := ⟨_, xh rfl⟩
       rw [HL.out] at GN
       have HE : Hid (∀ A' c' w6, w6.ownsRow w.heap.size 60 3 (.slice A' L.length c') L.length (L.flatMap yy2) → yy252 f a b w (.returned (.tuple #[.slice A' L.length c', .int .i64 0])) w6) := fun A' c' w6 h =>
        HEND.out _ _ ⟨oo, HC.out, M.out.small, by omega, A', c', by rw [HL.out], by rw [HL.out]; exact h⟩
       clear hln htl
       go_wp2_with fail
       refine GN.out.mono ?_
       rintro e w6 ⟨A', c', rfl, hown, hb6⟩
       have HOWN := xh (yy36 hown S5.out.low.size)
       have HB6 : Hid (Below w.heap.size w w6) := S5.out.low.trans (hb6.mono S5.out.low.size)
       clear hown hb6
       go_wp2
       go_ret2
       exact ⟨HE.out _ _ _ HOWN.out, HB6.out⟩
      ·have hy2 : y.kind = 2 := by
        have hf := M.out.fit
        have hym : y ∈ rest b j m := by rw [hrb]; simp
        have wy := yy74 fb.out.wh M.out.py y hym
        rw [hra, hrb, yy67, yy28] at hf
        rcases wy.cases with ⟨g, gn, _⟩ | ⟨g, gn, _⟩ | ⟨g, _⟩
        ·rw [in_one g] at hf; omega
        ·rw [yy65 g] at hf; omega
        ·exact g
       have h3 : ¬ (kd (rest a i n) = 2 ∧ f = true) := fun h => (by rw [hra] at h; have h1 : (0 : Int) = 2 := h.1; omega)
       have hym : y ∈ rest b j m := by rw [hrb]; simp
       have wy := xh (yy74 fb.out.wh M.out.py y hym)
       have h0 := wy.out.sz
       clear hym
       have GKX := xh (fun (w' : World) (s : St w.heap.size gx gy base a b w i n j m oo A0 c0 w') => s.kindX fa.out M.out.px)
       rw [hra] at GKX
       simp only [kd] at GKX
       have GKY := xh (fun (w' : World) (s : St w.heap.size gx gy base a b w i n j m oo A0 c0 w') => s.kindY fb.out M.out.py)
       rw [hrb] at GKY
       simp only [kd] at GKY
       rw [hy2] at GKY
       have GLY := xh (fun (o1 : List CompV) (A1 : Option Addr) (c1 : Nat) (w' : World) (s : St w.heap.size gx gy base a b w i n j m o1 A1 c1 w') => s.leftY fb.out M.out.py hrb)
       have GTY := xh (fun (o1 : List CompV) (A1 : Option Addr) (c1 : Nat) (w' : World) (s : St w.heap.size gx gy base a b w i n j m o1 A1 c1 w') => s.takenY fb.out M.out.py hrb (sz y) h0 (Nat.le_refl _))
       rw [yy78 wy.out] at GTY
       have HCH : Hid (chop y rb (sz y) = rb) := if_pos rfl
       rw [HCH.out] at GTY
       have GM := xh (fun j' m' hr hp => M.out.pass fb.out hrb hy2 h3 (j' := j') (m' := m') hr hp)
       obtain ⟨z, HZ⟩ : ∃ z, Hid (sz y = z) := ⟨_, xh rfl⟩
       rw [HZ.out] at GLY GTY GM
       clear h0 h3 hy2 hra hrb
       go_wp2_with fail
       refine (GKX.out _ S.out).mono ?_
       rintro e w4 ⟨rfl, hs⟩
       have S4 := xh hs; clear hs
       go_wp2_with fail
       refine (GKY.out _ S4.out).mono ?_
       rintro e w4b ⟨rfl, hs⟩
       have S4b := xh hs; clear hs
       go_wp2_with fail
       refine (GKX.out _ S4b.out).mono ?_
       rintro e w5 ⟨rfl, hs⟩
       have S5 := xh hs; clear hs
       go_wp2_with fail
       refine (GKY.out _ S5.out).mono ?_
       rintro e w5b ⟨rfl, hs⟩
       have S5b := xh hs; clear hs
       go_wp2_with fail
       refine (GLY.out _ _ _ _ S5b.out).mono ?_
       rintro e w6 ⟨rfl, hs⟩
       have S6 := xh hs; clear hs
       go_wp2_with (first
        | (at_builtin
           refine yy22 rfl (.tmp 84) (.tmp 88) rfl base (.slice A0 oo.length c0) oo ⟨1, (z : Int), []⟩ rfl S6.out.own S6.out.size rfl (by have := M.out.len; omega) ?_
           intro out1 A1 c1 w9 ho1 hown1 hb9
           have HO1 := xh ho1
           have S9 := xh (S6.out.push hown1 hb9)
           clear ho1 hown1 hb9)
        | fail)
       refine (GLY.out _ _ _ _ S9.out).mono ?_
       rintro e w10 ⟨rfl, hs⟩
       have S10 := xh hs; clear hs
       go_wp2_with fail
       refine (GTY.out _ _ _ _ S10.out).mono ?_
       rintro e w11 ⟨rfl, j', m', hr, hp, hs⟩
       have S11 := xh hs; clear hs
       have MN := xh (GM.out j' m' hr hp)
       clear hr hp
       go_wp2
       go_roundw
       case rel => exact ⟨i, n, j', m', out1, A1, c1, rfl, S11.out, by rw [HO1.out]; exact MN.out.1⟩
       case measure => rw [S11.out.left, S.out.left]; exact MN.out.2
     ·by_cases hx2 : x.kind = 2
      ·cases f
       ·rcases hrb : rest b j m with _ | ⟨y, rb⟩
        ·have hxm : x ∈ rest a i n := by rw [hra]; simp
         have wx := xh (yy74 fa.out.wh M.out.px x hxm)
         have h0 := wx.out.sz
         clear hxm
         have GKX := xh (fun (w' : World) (s : St w.heap.size gx gy base a b w i n j m oo A0 c0 w') => s.kindX fa.out M.out.px)
         rw [hra] at GKX
         simp only [kd] at GKX
         rw [hx2] at GKX
         have GKY := xh (fun (w' : World) (s : St w.heap.size gx gy base a b w i n j m oo A0 c0 w') => s.kindY fb.out M.out.py)
         rw [hrb] at GKY
         simp only [kd] at GKY
         have hf2 : false = true ∨ kd (rest b j m) ≠ 2 := .inr (by rw [hrb]; show (0 : Int) ≠ 2; omega)
         have GLX := xh (fun (w' : World) (s : St w.heap.size gx gy base a b w i n j m oo A0 c0 w') => s.leftX fa.out M.out.px hra)
         have GTX := xh (fun (w' : World) (s : St w.heap.size gx gy base a b w i n j m oo A0 c0 w') => s.takenX fa.out M.out.px hra (sz x) h0 (Nat.le_refl _))
         rw [yy78 wx.out] at GTX
         have HCH : Hid (chop x ra (sz x) = ra) := if_pos rfl
         rw [HCH.out] at GTX
         have GM := xh (fun i' n' hr hp => M.out.puts fa.out hra hx2 hf2 (i' := i') (n' := n') hr hp)
         obtain ⟨z, HZ⟩ : ∃ z, Hid (sz x = z) := ⟨_, xh rfl⟩
         rw [HZ.out] at GLX GTX
         clear h0 hx2 hra hf2 hrb
         go_wp2_with fail
         refine (GKX.out _ S.out).mono ?_
         rintro e w4 ⟨rfl, hs⟩
         have S4 := xh hs; clear hs
         go_wp2_with fail
         refine (GKX.out _ S4.out).mono ?_
         rintro e w5 ⟨rfl, hs⟩
         have S5 := xh hs; clear hs
         go_wp2_with fail
         refine (GKY.out _ S5.out).mono ?_
         rintro e w5b ⟨rfl, hs⟩
         have S5b := xh hs; clear hs
         go_wp2_with fail
         refine (GLX.out _ S5b.out).mono ?_
         rintro e w6 ⟨rfl, hs⟩
         have S6 := xh hs; clear hs
         go_wp2_with fail
         refine (GTX.out _ S6.out).mono ?_
         rintro e w7 ⟨rfl, i', n', hr, hp, hs⟩
         have S7 := xh hs; clear hs
         have MN := xh (GM.out i' n' hr hp)
         clear hr hp
         go_wp2_with (first
          | (at_builtin
             refine yy22 rfl (.tmp 73) (.tmp 78) rfl base (.slice A0 oo.length c0) oo x rfl S7.out.own S7.out.size rfl (by have := M.out.len; omega) ?_
             intro out1 A1 c1 w9 ho1 hown1 hb9
             have HO1 := xh ho1
             have S9 := xh (S7.out.push hown1 hb9)
             clear ho1 hown1 hb9)
          | fail)
         go_roundw
         case rel => exact ⟨i', n', j, m, out1, A1, c1, rfl, S9.out, by rw [HO1.out]; exact MN.out.1⟩
         case measure => rw [S9.out.left, S.out.left]; exact MN.out.2
        ·by_cases hy2 : y.kind = 2
         ·have h3 : ¬ (kd (rest a i n) = 2 ∧ false = true) := fun h => (by cases h.2)
          have hym : y ∈ rest b j m := by rw [hrb]; simp
          have wy := xh (yy74 fb.out.wh M.out.py y hym)
          have h0 := wy.out.sz
          clear hym
          have GKX := xh (fun (w' : World) (s : St w.heap.size gx gy base a b w i n j m oo A0 c0 w') => s.kindX fa.out M.out.px)
          rw [hra] at GKX
          simp only [kd] at GKX
          rw [hx2] at GKX
          have GKY := xh (fun (w' : World) (s : St w.heap.size gx gy base a b w i n j m oo A0 c0 w') => s.kindY fb.out M.out.py)
          rw [hrb] at GKY
          simp only [kd] at GKY
          rw [hy2] at GKY
          have GLY := xh (fun (o1 : List CompV) (A1 : Option Addr) (c1 : Nat) (w' : World) (s : St w.heap.size gx gy base a b w i n j m o1 A1 c1 w') => s.leftY fb.out M.out.py hrb)
          have GTY := xh (fun (o1 : List CompV) (A1 : Option Addr) (c1 : Nat) (w' : World) (s : St w.heap.size gx gy base a b w i n j m o1 A1 c1 w') => s.takenY fb.out M.out.py hrb (sz y) h0 (Nat.le_refl _))
          rw [yy78 wy.out] at GTY
          have HCH : Hid (chop y rb (sz y) = rb) := if_pos rfl
          rw [HCH.out] at GTY
          have GM := xh (fun j' m' hr hp => M.out.pass fb.out hrb hy2 h3 (j' := j') (m' := m') hr hp)
          obtain ⟨z, HZ⟩ : ∃ z, Hid (sz y = z) := ⟨_, xh rfl⟩
          rw [HZ.out] at GLY GTY GM
          clear h0 h3 hy2 hra hrb hx2
          go_wp2_with fail
          refine (GKX.out _ S.out).mono ?_
          rintro e w4 ⟨rfl, hs⟩
          have S4 := xh hs; clear hs
          go_wp2_with fail
          refine (GKX.out _ S4.out).mono ?_
          rintro e w4b ⟨rfl, hs⟩
          have S4b := xh hs; clear hs
          go_wp2_with fail
          refine (GKY.out _ S4b.out).mono ?_
          rintro e w5 ⟨rfl, hs⟩
          have S5 := xh hs; clear hs
          go_wp2_with fail
          refine (GKY.out _ S5.out).mono ?_
          rintro e w5b ⟨rfl, hs⟩
          have S5b := xh hs; clear hs
          go_wp2_with fail
          refine (GLY.out _ _ _ _ S5b.out).mono ?_
          rintro e w6 ⟨rfl, hs⟩
          have S6 := xh hs; clear hs
          go_wp2_with (first
           | (at_builtin
              refine yy22 rfl (.tmp 84) (.tmp 88) rfl base (.slice A0 oo.length c0) oo ⟨1, (z : Int), []⟩ rfl S6.out.own S6.out.size rfl (by have := M.out.len; omega) ?_
              intro out1 A1 c1 w9 ho1 hown1 hb9
              have HO1 := xh ho1
              have S9 := xh (S6.out.push hown1 hb9)
              clear ho1 hown1 hb9)
           | fail)
          refine (GLY.out _ _ _ _ S9.out).mono ?_
          rintro e w10 ⟨rfl, hs⟩
          have S10 := xh hs; clear hs
          go_wp2_with fail
          refine (GTY.out _ _ _ _ S10.out).mono ?_
          rintro e w11 ⟨rfl, j', m', hr, hp, hs⟩
          have S11 := xh hs; clear hs
          have MN := xh (GM.out j' m' hr hp)
          clear hr hp
          go_wp2
          go_roundw
          case rel => exact ⟨i, n, j', m', out1, A1, c1, rfl, S11.out, by rw [HO1.out]; exact MN.out.1⟩
          case measure => rw [S11.out.left, S.out.left]; exact MN.out.2
         ·have hxm : x ∈ rest a i n := by rw [hra]; simp
          have wx := xh (yy74 fa.out.wh M.out.px x hxm)
          have h0 := wx.out.sz
          clear hxm
          have GKX := xh (fun (w' : World) (s : St w.heap.size gx gy base a b w i n j m oo A0 c0 w') => s.kindX fa.out M.out.px)
          rw [hra] at GKX
          simp only [kd] at GKX
          rw [hx2] at GKX
          have GKY := xh (fun (w' : World) (s : St w.heap.size gx gy base a b w i n j m oo A0 c0 w') => s.kindY fb.out M.out.py)
          rw [hrb] at GKY
          simp only [kd] at GKY
          obtain ⟨ky, HKY⟩ : ∃ q, Hid (y.kind = q) := ⟨_, xh rfl⟩
          have hf2 : false = true ∨ kd (rest b j m) ≠ 2 := .inr (by rw [hrb]; exact hy2)
          have k2 : (ky != 2) = true := bne_iff_ne.2 (by rw [← HKY.out]; exact hy2)
          rw [HKY.out] at GKY
          have GLX := xh (fun (w' : World) (s : St w.heap.size gx gy base a b w i n j m oo A0 c0 w') => s.leftX fa.out M.out.px hra)
          have GTX := xh (fun (w' : World) (s : St w.heap.size gx gy base a b w i n j m oo A0 c0 w') => s.takenX fa.out M.out.px hra (sz x) h0 (Nat.le_refl _))
          rw [yy78 wx.out] at GTX
          have HCH : Hid (chop x ra (sz x) = ra) := if_pos rfl
          rw [HCH.out] at GTX
          have GM := xh (fun i' n' hr hp => M.out.puts fa.out hra hx2 hf2 (i' := i') (n' := n') hr hp)
          obtain ⟨z, HZ⟩ : ∃ z, Hid (sz x = z) := ⟨_, xh rfl⟩
          rw [HZ.out] at GLX GTX
          clear h0 hx2 hra hf2 hrb hy2
          go_wp2_with fail
          refine (GKX.out _ S.out).mono ?_
          rintro e w4 ⟨rfl, hs⟩
          have S4 := xh hs; clear hs
          go_wp2_with fail
          refine (GKX.out _ S4.out).mono ?_
          rintro e w5 ⟨rfl, hs⟩
          have S5 := xh hs; clear hs
          go_wp2_with fail
          refine (GKY.out _ S5.out).mono ?_
          rintro e w5b ⟨rfl, hs⟩
          have S5b := xh hs; clear hs
          go_wp2_with fail
          refine (GLX.out _ S5b.out).mono ?_
          rintro e w6 ⟨rfl, hs⟩
          have S6 := xh hs; clear hs
          go_wp2_with fail
          refine (GTX.out _ S6.out).mono ?_
          rintro e w7 ⟨rfl, i', n', hr, hp, hs⟩
          have S7 := xh hs; clear hs
          have MN := xh (GM.out i' n' hr hp)
          clear hr hp
          go_wp2_with (first
           | (at_builtin
              refine yy22 rfl (.tmp 73) (.tmp 78) rfl base (.slice A0 oo.length c0) oo x rfl S7.out.own S7.out.size rfl (by have := M.out.len; omega) ?_
              intro out1 A1 c1 w9 ho1 hown1 hb9
              have HO1 := xh ho1
              have S9 := xh (S7.out.push hown1 hb9)
              clear ho1 hown1 hb9)
           | fail)
          go_roundw
          case rel => exact ⟨i', n', j, m, out1, A1, c1, rfl, S9.out, by rw [HO1.out]; exact MN.out.1⟩
          case measure => rw [S9.out.left, S.out.left]; exact MN.out.2
       ·have hxm : x ∈ rest a i n := by rw [hra]; simp
        have wx := xh (yy74 fa.out.wh M.out.px x hxm)
        have h0 := wx.out.sz
        clear hxm
        have GKX := xh (fun (w' : World) (s : St w.heap.size gx gy base a b w i n j m oo A0 c0 w') => s.kindX fa.out M.out.px)
        rw [hra] at GKX
        simp only [kd] at GKX
        rw [hx2] at GKX
        have hf2 : true = true ∨ kd (rest b j m) ≠ 2 := .inl rfl
        have GLX := xh (fun (w' : World) (s : St w.heap.size gx gy base a b w i n j m oo A0 c0 w') => s.leftX fa.out M.out.px hra)
        have GTX := xh (fun (w' : World) (s : St w.heap.size gx gy base a b w i n j m oo A0 c0 w') => s.takenX fa.out M.out.px hra (sz x) h0 (Nat.le_refl _))
        rw [yy78 wx.out] at GTX
        have HCH : Hid (chop x ra (sz x) = ra) := if_pos rfl
        rw [HCH.out] at GTX
        have GM := xh (fun i' n' hr hp => M.out.puts fa.out hra hx2 hf2 (i' := i') (n' := n') hr hp)
        obtain ⟨z, HZ⟩ : ∃ z, Hid (sz x = z) := ⟨_, xh rfl⟩
        rw [HZ.out] at GLX GTX
        clear h0 hx2 hra hf2
        go_wp2_with fail
        refine (GKX.out _ S.out).mono ?_
        rintro e w4 ⟨rfl, hs⟩
        have S4 := xh hs; clear hs
        go_wp2_with fail
        refine (GKX.out _ S4.out).mono ?_
        rintro e w5 ⟨rfl, hs⟩
        have S5 := xh hs; clear hs
        go_wp2_with fail
        refine (GLX.out _ S5.out).mono ?_
        rintro e w6 ⟨rfl, hs⟩
        have S6 := xh hs; clear hs
        go_wp2_with fail
        refine (GTX.out _ S6.out).mono ?_
        rintro e w7 ⟨rfl, i', n', hr, hp, hs⟩
        have S7 := xh hs; clear hs
        have MN := xh (GM.out i' n' hr hp)
        clear hr hp
        go_wp2_with (first
         | (at_builtin
            refine yy22 rfl (.tmp 73) (.tmp 78) rfl base (.slice A0 oo.length c0) oo x rfl S7.out.own S7.out.size rfl (by have := M.out.len; omega) ?_
            intro out1 A1 c1 w9 ho1 hown1 hb9
            have HO1 := xh ho1
            have S9 := xh (S7.out.push hown1 hb9)
            clear ho1 hown1 hb9)
         | fail)
        go_roundw
        case rel => exact ⟨i', n', j, m, out1, A1, c1, rfl, S9.out, by rw [HO1.out]; exact MN.out.1⟩
        case measure => rw [S9.out.left, S.out.left]; exact MN.out.2
      ·rcases hrb : rest b j m with _ | ⟨y, rb⟩
       ·exfalso
        have hf := M.out.fit
        have hxm : x ∈ rest a i n := by rw [hra]; simp
        have wx := yy74 fa.out.wh M.out.px x hxm
        rw [hra, hrb, yy67, yy28] at hf
        rcases wx.cases with ⟨g, gn, _⟩ | ⟨g, gn, _⟩ | ⟨g, _⟩
        ·rw [in_one g] at hf; omega
        ·rw [yy65 g] at hf; omega
        ·exact hx2 g
       ·by_cases hy2 : y.kind = 2
        ·obtain ⟨kx, HKX⟩ : ∃ q, Hid (x.kind = q) := ⟨_, xh rfl⟩
         have hxm : x ∈ rest a i n := by rw [hra]; simp
         have wx := xh (yy74 fa.out.wh M.out.px x hxm)
         have k0 : (kx != 0) = true := bne_iff_ne.2 (by rw [← HKX.out]; rcases wx.out.cases with g | g | g <;> omega)
         have k2 : (kx == 2) = false := beq_eq_false_iff_ne.2 (by rw [← HKX.out]; exact hx2)
         have h3 : ¬ (kd (rest a i n) = 2 ∧ f = true) := fun h => hx2 (by rw [hra] at h; exact h.1)
         clear hxm
         have hym : y ∈ rest b j m := by rw [hrb]; simp
         have wy := xh (yy74 fb.out.wh M.out.py y hym)
         have h0 := wy.out.sz
         clear hym
         have GKX := xh (fun (w' : World) (s : St w.heap.size gx gy base a b w i n j m oo A0 c0 w') => s.kindX fa.out M.out.px)
         rw [hra] at GKX
         simp only [kd] at GKX
         rw [HKX.out] at GKX
         have GKY := xh (fun (w' : World) (s : St w.heap.size gx gy base a b w i n j m oo A0 c0 w') => s.kindY fb.out M.out.py)
         rw [hrb] at GKY
         simp only [kd] at GKY
         rw [hy2] at GKY
         have GLY := xh (fun (o1 : List CompV) (A1 : Option Addr) (c1 : Nat) (w' : World) (s : St w.heap.size gx gy base a b w i n j m o1 A1 c1 w') => s.leftY fb.out M.out.py hrb)
         have GTY := xh (fun (o1 : List CompV) (A1 : Option Addr) (c1 : Nat) (w' : World) (s : St w.heap.size gx gy base a b w i n j m o1 A1 c1 w') => s.takenY fb.out M.out.py hrb (sz y) h0 (Nat.le_refl _))
         rw [yy78 wy.out] at GTY
         have HCH : Hid (chop y rb (sz y) = rb) := if_pos rfl
         rw [HCH.out] at GTY
         have GM := xh (fun j' m' hr hp => M.out.pass fb.out hrb hy2 h3 (j' := j') (m' := m') hr hp)
         obtain ⟨z, HZ⟩ : ∃ z, Hid (sz y = z) := ⟨_, xh rfl⟩
         rw [HZ.out] at GLY GTY GM
         clear h0 h3 hy2 hra hrb hx2
         go_wp2_with fail
         refine (GKX.out _ S.out).mono ?_
         rintro e w4 ⟨rfl, hs⟩
         have S4 := xh hs; clear hs
         go_wp2_with fail
         refine (GKX.out _ S4.out).mono ?_
         rintro e w5 ⟨rfl, hs⟩
         have S5 := xh hs; clear hs
         go_wp2_with fail
         refine (GKY.out _ S5.out).mono ?_
         rintro e w5b ⟨rfl, hs⟩
         have S5b := xh hs; clear hs
         go_wp2_with fail
         refine (GLY.out _ _ _ _ S5b.out).mono ?_
         rintro e w6 ⟨rfl, hs⟩
         have S6 := xh hs; clear hs
         go_wp2_with (first
          | (at_builtin
             refine yy22 rfl (.tmp 84) (.tmp 88) rfl base (.slice A0 oo.length c0) oo ⟨1, (z : Int), []⟩ rfl S6.out.own S6.out.size rfl (by have := M.out.len; omega) ?_
             intro out1 A1 c1 w9 ho1 hown1 hb9
             have HO1 := xh ho1
             have S9 := xh (S6.out.push hown1 hb9)
             clear ho1 hown1 hb9)
          | fail)
         refine (GLY.out _ _ _ _ S9.out).mono ?_
         rintro e w10 ⟨rfl, hs⟩
         have S10 := xh hs; clear hs
         go_wp2_with fail
         refine (GTY.out _ _ _ _ S10.out).mono ?_
         rintro e w11 ⟨rfl, j', m', hr, hp, hs⟩
         have S11 := xh hs; clear hs
         have MN := xh (GM.out j' m' hr hp)
         clear hr hp
         go_wp2
         go_roundw
         case rel => exact ⟨i, n, j', m', out1, A1, c1, rfl, S11.out, by rw [HO1.out]; exact MN.out.1⟩
         case measure => rw [S11.out.left, S.out.left]; exact MN.out.2
        ·have hxm : x ∈ rest a i n := by rw [hra]; simp
         have wx := xh (yy74 fa.out.wh M.out.px x hxm)
         have hym : y ∈ rest b j m := by rw [hrb]; simp
         have wy := xh (yy74 fb.out.wh M.out.py y hym)
         have tx := yy288 fa.out M.out.px x hxm
         have ty := yy288 fb.out M.out.py y hym
         have h0 := wx.out.sz
         have h1 := wy.out.sz
         clear hxm hym
         have GKX := xh (fun (w' : World) (s : St w.heap.size gx gy base a b w i n j m oo A0 c0 w') => s.kindX fa.out M.out.px)
         rw [hra] at GKX
         simp only [kd] at GKX
         have GKY := xh (fun (w' : World) (s : St w.heap.size gx gy base a b w i n j m oo A0 c0 w') => s.kindY fb.out M.out.py)
         rw [hrb] at GKY
         simp only [kd] at GKY
         obtain ⟨kx, HKX⟩ : ∃ q, Hid (x.kind = q) := ⟨_, xh rfl⟩
         obtain ⟨ky, HKY⟩ : ∃ q, Hid (y.kind = q) := ⟨_, xh rfl⟩
         have hkx : kx = 1 ∨ kx = 3 := by rw [← HKX.out]; rcases wx.out.cases with g | g | g <;> omega
         have hky : ky = 1 ∨ ky = 3 := by rw [← HKY.out]; rcases wy.out.cases with g | g | g <;> omega
         rw [HKX.out] at GKX
         rw [HKY.out] at GKY
         obtain ⟨k, HK⟩ : ∃ k, Hid (k = min (sz x) (sz y)) := ⟨_, xh rfl⟩
         have hk := HK.out
         have GLX := xh (fun (w' : World) (s : St w.heap.size gx gy base a b w i n j m oo A0 c0 w') => s.leftX fa.out M.out.px hra)
         have GLY := xh (fun (w' : World) (s : St w.heap.size gx gy base a b w i n j m oo A0 c0 w') => s.leftY fb.out M.out.py hrb)
         have GTX := xh (fun (w' : World) (s : St w.heap.size gx gy base a b w i n j m oo A0 c0 w') => s.takenX fa.out M.out.px hra k (by omega) (by omega))
         have GTY := xh (fun (i' n' : Nat) (w' : World) (s : St w.heap.size gx gy base a b w i' n' j m oo A0 c0 w') => s.takenY fb.out M.out.py hrb k (by omega) (by omega))
         have GM := xh (fun i' n' j' m' e hr hp hr2 hp2 he => M.out.both fa.out fb.out hra hrb hx2 hy2 HK.out (i' := i') (n' := n') (j' := j') (m' := m') hr hp hr2 hp2 (e := e) he)
         have PX := xh ((yy103 x k).trans HKX.out)
         have PY := xh ((yy103 y k).trans HKY.out)
         rw [HKY.out] at GM
         obtain ⟨p, HP⟩ : ∃ p, Hid (sz x = p) := ⟨_, xh rfl⟩
         obtain ⟨q, HQ⟩ : ∃ p, Hid (sz y = p) := ⟨_, xh rfl⟩
         rw [HP.out, HQ.out] at hk
         rw [HP.out] at GLX h0 tx
         rw [HQ.out] at GLY h1 ty
         obtain ⟨xx, HXX⟩ : ∃ x', Hid (piece x k = x') := ⟨_, xh rfl⟩
         obtain ⟨yy, HYY⟩ : ∃ x', Hid (piece y k = x') := ⟨_, xh rfl⟩
         rw [HXX.out] at GTX PX GM
         rw [HYY.out] at GTY PY
         clear HXX HYY HK HKX HKY
         obtain ⟨xk, xn, xt⟩ := xx
         obtain ⟨yk, yn, yt⟩ := yy
         simp only at GTX GTY PX PY GM
         have ek := PX.out
         have el := PY.out
         subst ek
         subst el
         clear hx2 hy2 hra hrb
         have hlast : p ≤ q ∧ k = p ∨ ¬ p ≤ q ∧ k = q := by omega
         clear hk PX PY
         rcases hkx with rfl | rfl <;> rcases hky with rfl | rfl <;> rcases hlast with ⟨hpq, rfl⟩ | ⟨hpq, rfl⟩
         ·go_wp2_with fail
          refine (GKX.out _ S.out).mono ?_
          rintro e w4 ⟨rfl, hs⟩
          have S4 := xh hs; clear hs
          go_wp2_with fail
          refine (GKX.out _ S4.out).mono ?_
          rintro e w5 ⟨rfl, hs⟩
          have S5 := xh hs; clear hs
          go_wp2_with fail
          refine (GKY.out _ S5.out).mono ?_
          rintro e w5b ⟨rfl, hs⟩
          have S5b := xh hs; clear hs
          go_wp2_with fail
          refine (GLX.out _ S5b.out).mono ?_
          rintro e w6 ⟨rfl, hs⟩
          have S6 := xh hs; clear hs
          go_wp2_with fail
          refine (GLY.out _ S6.out).mono ?_
          rintro e w6b ⟨rfl, hs⟩
          have S6b := xh hs; clear hs
          go_wp2_with fail
          refine (GTX.out _ S6b.out).mono ?_
          rintro e w7 ⟨rfl, i', n', hr, hp, hs⟩
          have S7 := xh hs; clear hs
          go_wp2_with fail
          refine (GTY.out i' n' _ S7.out).mono ?_
          rintro e w8 ⟨rfl, j', m', hr2, hp2, hs⟩
          have S8 := xh hs; clear hs
          have S11 := xh (S8.out.below (((Below.refl w8.heap.size w8).alloc (Nat.le_refl _) (Obj.cells #[.int .i64 1, .int .i64 xn, .string (bstr xt)] 60)).alloc (by simp) (Obj.cells #[.int .i64 1, .int .i64 yn, .string (bstr yt)] 60)))
          have MN := xh (GM.out i' n' j' m' [⟨1, xn, xt⟩] hr hp hr2 hp2 (by simp))
          clear hr hp hr2 hp2
          go_wp2_with (first
           | (at_builtin
              refine yy22 rfl (.tmp 57) (.tmp 59) rfl base (.slice A0 oo.length c0) oo ⟨1, xn, xt⟩ rfl S11.out.own S11.out.size (Eq.trans (rfl : _ = Value.slice (some ⟨w8.heap.size + 1 + 1, 0, none⟩) 1 1) (by simp)) (by have := M.out.len; omega) ?_
              intro out1 A1 c1 w9 ho1 hown1 hb9
              have HO1 := xh ho1
              have S9 := xh (S11.out.push hown1 hb9)
              clear ho1 hown1 hb9)
           | fail)
          go_roundw
          case rel => exact ⟨i', n', j', m', out1, A1, c1, rfl, S9.out, by rw [HO1.out]; exact MN.out.1⟩
          case measure => rw [S9.out.left, S.out.left]; exact MN.out.2
         ·have hqp : k ≤ p := by omega
          go_wp2_with fail
          refine (GKX.out _ S.out).mono ?_
          rintro e w4 ⟨rfl, hs⟩
          have S4 := xh hs; clear hs
          go_wp2_with fail
          refine (GKX.out _ S4.out).mono ?_
          rintro e w5 ⟨rfl, hs⟩
          have S5 := xh hs; clear hs
          go_wp2_with fail
          refine (GKY.out _ S5.out).mono ?_
          rintro e w5b ⟨rfl, hs⟩
          have S5b := xh hs; clear hs
          go_wp2_with fail
          refine (GLX.out _ S5b.out).mono ?_
          rintro e w6 ⟨rfl, hs⟩
          have S6 := xh hs; clear hs
          go_wp2_with fail
          refine (GLY.out _ S6.out).mono ?_
          rintro e w6b ⟨rfl, hs⟩
          have S6b := xh hs; clear hs
          go_wp2_with fail
          refine (GTX.out _ S6b.out).mono ?_
          rintro e w7 ⟨rfl, i', n', hr, hp, hs⟩
          have S7 := xh hs; clear hs
          go_wp2_with fail
          refine (GTY.out i' n' _ S7.out).mono ?_
          rintro e w8 ⟨rfl, j', m', hr2, hp2, hs⟩
          have S8 := xh hs; clear hs
          have S11 := xh (S8.out.below (((Below.refl w8.heap.size w8).alloc (Nat.le_refl _) (Obj.cells #[.int .i64 1, .int .i64 xn, .string (bstr xt)] 60)).alloc (by simp) (Obj.cells #[.int .i64 1, .int .i64 yn, .string (bstr yt)] 60)))
          have MN := xh (GM.out i' n' j' m' [⟨1, xn, xt⟩] hr hp hr2 hp2 (by simp))
          clear hr hp hr2 hp2
          go_wp2_with (first
           | (at_builtin
              refine yy22 rfl (.tmp 57) (.tmp 59) rfl base (.slice A0 oo.length c0) oo ⟨1, xn, xt⟩ rfl S11.out.own S11.out.size (Eq.trans (rfl : _ = Value.slice (some ⟨w8.heap.size + 1 + 1, 0, none⟩) 1 1) (by simp)) (by have := M.out.len; omega) ?_
              intro out1 A1 c1 w9 ho1 hown1 hb9
              have HO1 := xh ho1
              have S9 := xh (S11.out.push hown1 hb9)
              clear ho1 hown1 hb9)
           | fail)
          go_roundw
          case rel => exact ⟨i', n', j', m', out1, A1, c1, rfl, S9.out, by rw [HO1.out]; exact MN.out.1⟩
          case measure => rw [S9.out.left, S.out.left]; exact MN.out.2
         ·go_wp2_with fail
          refine (GKX.out _ S.out).mono ?_
          rintro e w4 ⟨rfl, hs⟩
          have S4 := xh hs; clear hs
          go_wp2_with fail
          refine (GKX.out _ S4.out).mono ?_
          rintro e w5 ⟨rfl, hs⟩
          have S5 := xh hs; clear hs
          go_wp2_with fail
          refine (GKY.out _ S5.out).mono ?_
          rintro e w5b ⟨rfl, hs⟩
          have S5b := xh hs; clear hs
          go_wp2_with fail
          refine (GLX.out _ S5b.out).mono ?_
          rintro e w6 ⟨rfl, hs⟩
          have S6 := xh hs; clear hs
          go_wp2_with fail
          refine (GLY.out _ S6.out).mono ?_
          rintro e w6b ⟨rfl, hs⟩
          have S6b := xh hs; clear hs
          go_wp2_with fail
          refine (GTX.out _ S6b.out).mono ?_
          rintro e w7 ⟨rfl, i', n', hr, hp, hs⟩
          have S7 := xh hs; clear hs
          go_wp2_with fail
          refine (GTY.out i' n' _ S7.out).mono ?_
          rintro e w8 ⟨rfl, j', m', hr2, hp2, hs⟩
          have S8 := xh hs; clear hs
          have S11 := xh (S8.out.below (((Below.refl w8.heap.size w8).alloc (Nat.le_refl _) (Obj.cells #[.int .i64 1, .int .i64 xn, .string (bstr xt)] 60)).alloc (by simp) (Obj.cells #[.int .i64 3, .int .i64 yn, .string (bstr yt)] 60)))
          have MN := xh (GM.out i' n' j' m' [] hr hp hr2 hp2 (by simp))
          clear hr hp hr2 hp2
          go_wp2
          go_roundw
          case rel => exact ⟨i', n', j', m', oo, A0, c0, rfl, S11.out, by have := MN.out.1; rwa [List.append_nil] at this⟩
          case measure => rw [S11.out.left, S.out.left]; exact MN.out.2
         ·have hqp : k ≤ p := by omega
          go_wp2_with fail
          refine (GKX.out _ S.out).mono ?_
          rintro e w4 ⟨rfl, hs⟩
          have S4 := xh hs; clear hs
          go_wp2_with fail
          refine (GKX.out _ S4.out).mono ?_
          rintro e w5 ⟨rfl, hs⟩
          have S5 := xh hs; clear hs
          go_wp2_with fail
          refine (GKY.out _ S5.out).mono ?_
          rintro e w5b ⟨rfl, hs⟩
          have S5b := xh hs; clear hs
          go_wp2_with fail
          refine (GLX.out _ S5b.out).mono ?_
          rintro e w6 ⟨rfl, hs⟩
          have S6 := xh hs; clear hs
          go_wp2_with fail
          refine (GLY.out _ S6.out).mono ?_
          rintro e w6b ⟨rfl, hs⟩
          have S6b := xh hs; clear hs
          go_wp2_with fail
          refine (GTX.out _ S6b.out).mono ?_
          rintro e w7 ⟨rfl, i', n', hr, hp, hs⟩
          have S7 := xh hs; clear hs
          go_wp2_with fail
          refine (GTY.out i' n' _ S7.out).mono ?_
          rintro e w8 ⟨rfl, j', m', hr2, hp2, hs⟩
          have S8 := xh hs; clear hs
          have S11 := xh (S8.out.below (((Below.refl w8.heap.size w8).alloc (Nat.le_refl _) (Obj.cells #[.int .i64 1, .int .i64 xn, .string (bstr xt)] 60)).alloc (by simp) (Obj.cells #[.int .i64 3, .int .i64 yn, .string (bstr yt)] 60)))
          have MN := xh (GM.out i' n' j' m' [] hr hp hr2 hp2 (by simp))
          clear hr hp hr2 hp2
          go_wp2
          go_roundw
          case rel => exact ⟨i', n', j', m', oo, A0, c0, rfl, S11.out, by have := MN.out.1; rwa [List.append_nil] at this⟩
          case measure => rw [S11.out.left, S.out.left]; exact MN.out.2
         ·go_wp2_with fail
          refine (GKX.out _ S.out).mono ?_
          rintro e w4 ⟨rfl, hs⟩
          have S4 := xh hs; clear hs
          go_wp2_with fail
          refine (GKX.out _ S4.out).mono ?_
          rintro e w5 ⟨rfl, hs⟩
          have S5 := xh hs; clear hs
          go_wp2_with fail
          refine (GKY.out _ S5.out).mono ?_
          rintro e w5b ⟨rfl, hs⟩
          have S5b := xh hs; clear hs
          go_wp2_with fail
          refine (GLX.out _ S5b.out).mono ?_
          rintro e w6 ⟨rfl, hs⟩
          have S6 := xh hs; clear hs
          go_wp2_with fail
          refine (GLY.out _ S6.out).mono ?_
          rintro e w6b ⟨rfl, hs⟩
          have S6b := xh hs; clear hs
          go_wp2_with fail
          refine (GTX.out _ S6b.out).mono ?_
          rintro e w7 ⟨rfl, i', n', hr, hp, hs⟩
          have S7 := xh hs; clear hs
          go_wp2_with fail
          refine (GTY.out i' n' _ S7.out).mono ?_
          rintro e w8 ⟨rfl, j', m', hr2, hp2, hs⟩
          have S8 := xh hs; clear hs
          have S11 := xh (S8.out.below (((Below.refl w8.heap.size w8).alloc (Nat.le_refl _) (Obj.cells #[.int .i64 3, .int .i64 xn, .string (bstr xt)] 60)).alloc (by simp) (Obj.cells #[.int .i64 1, .int .i64 yn, .string (bstr yt)] 60)))
          have MN := xh (GM.out i' n' j' m' [⟨3, xn, xt⟩] hr hp hr2 hp2 (by simp))
          clear hr hp hr2 hp2
          go_wp2_with (first
           | (at_builtin
              refine yy22 rfl (.tmp 57) (.tmp 59) rfl base (.slice A0 oo.length c0) oo ⟨3, xn, xt⟩ rfl S11.out.own S11.out.size (Eq.trans (rfl : _ = Value.slice (some ⟨w8.heap.size + 1 + 1, 0, none⟩) 1 1) (by simp)) (by have := M.out.len; omega) ?_
              intro out1 A1 c1 w9 ho1 hown1 hb9
              have HO1 := xh ho1
              have S9 := xh (S11.out.push hown1 hb9)
              clear ho1 hown1 hb9)
           | fail)
          go_roundw
          case rel => exact ⟨i', n', j', m', out1, A1, c1, rfl, S9.out, by rw [HO1.out]; exact MN.out.1⟩
          case measure => rw [S9.out.left, S.out.left]; exact MN.out.2
         ·have hqp : k ≤ p := by omega
          go_wp2_with fail
          refine (GKX.out _ S.out).mono ?_
          rintro e w4 ⟨rfl, hs⟩
          have S4 := xh hs; clear hs
          go_wp2_with fail
          refine (GKX.out _ S4.out).mono ?_
          rintro e w5 ⟨rfl, hs⟩
          have S5 := xh hs; clear hs
          go_wp2_with fail
          refine (GKY.out _ S5.out).mono ?_
          rintro e w5b ⟨rfl, hs⟩
          have S5b := xh hs; clear hs
          go_wp2_with fail
          refine (GLX.out _ S5b.out).mono ?_
          rintro e w6 ⟨rfl, hs⟩
          have S6 := xh hs; clear hs
          go_wp2_with fail
          refine (GLY.out _ S6.out).mono ?_
          rintro e w6b ⟨rfl, hs⟩
          have S6b := xh hs; clear hs
          go_wp2_with fail
          refine (GTX.out _ S6b.out).mono ?_
          rintro e w7 ⟨rfl, i', n', hr, hp, hs⟩
          have S7 := xh hs; clear hs
          go_wp2_with fail
          refine (GTY.out i' n' _ S7.out).mono ?_
          rintro e w8 ⟨rfl, j', m', hr2, hp2, hs⟩
          have S8 := xh hs; clear hs
          have S11 := xh (S8.out.below (((Below.refl w8.heap.size w8).alloc (Nat.le_refl _) (Obj.cells #[.int .i64 3, .int .i64 xn, .string (bstr xt)] 60)).alloc (by simp) (Obj.cells #[.int .i64 1, .int .i64 yn, .string (bstr yt)] 60)))
          have MN := xh (GM.out i' n' j' m' [⟨3, xn, xt⟩] hr hp hr2 hp2 (by simp))
          clear hr hp hr2 hp2
          go_wp2_with (first
           | (at_builtin
              refine yy22 rfl (.tmp 57) (.tmp 59) rfl base (.slice A0 oo.length c0) oo ⟨3, xn, xt⟩ rfl S11.out.own S11.out.size (Eq.trans (rfl : _ = Value.slice (some ⟨w8.heap.size + 1 + 1, 0, none⟩) 1 1) (by simp)) (by have := M.out.len; omega) ?_
              intro out1 A1 c1 w9 ho1 hown1 hb9
              have HO1 := xh ho1
              have S9 := xh (S11.out.push hown1 hb9)
              clear ho1 hown1 hb9)
           | fail)
          go_roundw
          case rel => exact ⟨i', n', j', m', out1, A1, c1, rfl, S9.out, by rw [HO1.out]; exact MN.out.1⟩
          case measure => rw [S9.out.left, S.out.left]; exact MN.out.2
         ·go_wp2_with fail
          refine (GKX.out _ S.out).mono ?_
          rintro e w4 ⟨rfl, hs⟩
          have S4 := xh hs; clear hs
          go_wp2_with fail
          refine (GKX.out _ S4.out).mono ?_
          rintro e w5 ⟨rfl, hs⟩
          have S5 := xh hs; clear hs
          go_wp2_with fail
          refine (GKY.out _ S5.out).mono ?_
          rintro e w5b ⟨rfl, hs⟩
          have S5b := xh hs; clear hs
          go_wp2_with fail
          refine (GLX.out _ S5b.out).mono ?_
          rintro e w6 ⟨rfl, hs⟩
          have S6 := xh hs; clear hs
          go_wp2_with fail
          refine (GLY.out _ S6.out).mono ?_
          rintro e w6b ⟨rfl, hs⟩
          have S6b := xh hs; clear hs
          go_wp2_with fail
          refine (GTX.out _ S6b.out).mono ?_
          rintro e w7 ⟨rfl, i', n', hr, hp, hs⟩
          have S7 := xh hs; clear hs
          go_wp2_with fail
          refine (GTY.out i' n' _ S7.out).mono ?_
          rintro e w8 ⟨rfl, j', m', hr2, hp2, hs⟩
          have S8 := xh hs; clear hs
          have S11 := xh (S8.out.below (((Below.refl w8.heap.size w8).alloc (Nat.le_refl _) (Obj.cells #[.int .i64 3, .int .i64 xn, .string (bstr xt)] 60)).alloc (by simp) (Obj.cells #[.int .i64 3, .int .i64 yn, .string (bstr yt)] 60)))
          have MN := xh (GM.out i' n' j' m' [] hr hp hr2 hp2 (by simp))
          clear hr hp hr2 hp2
          go_wp2
          go_roundw
          case rel => exact ⟨i', n', j', m', oo, A0, c0, rfl, S11.out, by have := MN.out.1; rwa [List.append_nil] at this⟩
          case measure => rw [S11.out.left, S.out.left]; exact MN.out.2
         ·have hqp : k ≤ p := by omega
          go_wp2_with fail
          refine (GKX.out _ S.out).mono ?_
          rintro e w4 ⟨rfl, hs⟩
          have S4 := xh hs; clear hs
          go_wp2_with fail
          refine (GKX.out _ S4.out).mono ?_
          rintro e w5 ⟨rfl, hs⟩
          have S5 := xh hs; clear hs
          go_wp2_with fail
          refine (GKY.out _ S5.out).mono ?_
          rintro e w5b ⟨rfl, hs⟩
          have S5b := xh hs; clear hs
          go_wp2_with fail
          refine (GLX.out _ S5b.out).mono ?_
          rintro e w6 ⟨rfl, hs⟩
          have S6 := xh hs; clear hs
          go_wp2_with fail
          refine (GLY.out _ S6.out).mono ?_
          rintro e w6b ⟨rfl, hs⟩
          have S6b := xh hs; clear hs
          go_wp2_with fail
          refine (GTX.out _ S6b.out).mono ?_
          rintro e w7 ⟨rfl, i', n', hr, hp, hs⟩
          have S7 := xh hs; clear hs
          go_wp2_with fail
          refine (GTY.out i' n' _ S7.out).mono ?_
          rintro e w8 ⟨rfl, j', m', hr2, hp2, hs⟩
          have S8 := xh hs; clear hs
          have S11 := xh (S8.out.below (((Below.refl w8.heap.size w8).alloc (Nat.le_refl _) (Obj.cells #[.int .i64 3, .int .i64 xn, .string (bstr xt)] 60)).alloc (by simp) (Obj.cells #[.int .i64 3, .int .i64 yn, .string (bstr yt)] 60)))
          have MN := xh (GM.out i' n' j' m' [] hr hp hr2 hp2 (by simp))
          clear hr hp hr2 hp2
          go_wp2
          go_roundw
          case rel => exact ⟨i', n', j', m', oo, A0, c0, rfl, S11.out, by have := MN.out.1; rwa [List.append_nil] at this⟩
          case measure => rw [S11.out.left, S.out.left]; exact MN.out.2
   ·have HE : Hid (∀ w', yy252 f a b w (.returned (.tuple #[.slice none 0 0, .int .i64 11])) w') := fun w' => .inr (.inr (.inl ⟨HEA.out, HEB.out, by rw [HXO.out, HXI.out]; exact h3, rfl⟩))
    have q3 : (xo != xi) = true := bne_iff_ne.2 h3
    have q4 : (xo == xi) = false := beq_eq_false_iff_ne.2 h3
    clear HEA HEB HXO HXI
    go_enter Tryz.func29, Tryz.ntmps29
    go_wp2_with fail
    refine (GA.out _ HA.out).mono ?_
    rintro e w1 ⟨rfl, hb⟩
    have HB1 := xh hb; clear hb
    go_wp2_with fail
    refine (GB.out _ (HB.out.below HB1.out)).mono ?_
    rintro e w2 ⟨rfl, hb⟩
    have HB2 : Hid (Below w.heap.size w w2) := HB1.out.trans (hb.mono HB1.out.size); clear hb
    go_wp2_with fail
    refine (GO.out _ (HA.out.below HB2.out)).mono ?_
    rintro e w2' ⟨rfl, rfl⟩
    go_wp2_with fail
    refine (GI.out _ (HB.out.below HB2.out)).mono ?_
    rintro e w2' ⟨rfl, rfl⟩
    go_wp2
    go_ret2
    exact ⟨HE.out _, HB2.out⟩
  ·have HE : Hid (∀ w', yy252 f a b w (.returned (.tuple #[.slice none 0 0, .int .i64 (eb : Int)])) w') := fun w' => .inr (.inl ⟨HEA.out, by rw [HEB.out]; exact h2, by rw [HEB.out]⟩)
   have q3 : ((eb : Int) != 0) = true := bne_iff_ne.2 (by omega)
   have q4 : ((eb : Int) == 0) = false := beq_eq_false_iff_ne.2 (by omega)
   clear HEA HEB HXO HXI
   go_enter Tryz.func29, Tryz.ntmps29
   go_wp2_with fail
   refine (GA.out _ HA.out).mono ?_
   rintro e w1 ⟨rfl, hb⟩
   have HB1 := xh hb; clear hb
   go_wp2_with fail
   refine (GB.out _ (HB.out.below HB1.out)).mono ?_
   rintro e w2 ⟨rfl, hb⟩
   have HB2 : Hid (Below w.heap.size w w2) := HB1.out.trans (hb.mono HB1.out.size); clear hb
   go_wp2
   go_ret2
   exact ⟨HE.out _, HB2.out⟩
 ·have HE : Hid (∀ w', yy252 f a b w (.returned (.tuple #[.slice none 0 0, .int .i64 (ea : Int)])) w') := fun w' => .inl ⟨by rw [HEA.out]; exact h1, by rw [HEA.out]⟩
  have q3 : ((ea : Int) != 0) = true := bne_iff_ne.2 (by omega)
  have q4 : ((ea : Int) == 0) = false := beq_eq_false_iff_ne.2 (by omega)
  clear HEA HEB HXO HXI
  go_enter Tryz.func29, Tryz.ntmps29
  go_wp2_with fail
  refine (GA.out _ HA.out).mono ?_
  rintro e w1 ⟨rfl, hb⟩
  have HB1 := xh hb; clear hb
  go_wp2
  go_ret2
  exact ⟨HE.out _, HB1.out⟩
end Go.Proofs.YtjpjdkdbgjipnaaGreatDoor
