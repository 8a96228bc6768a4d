/- The document's own Two, Over and All, told by functions. Conditions: what memory may hold. (Merged of 3 texts.) -/
import Derived.Test.YtoicgmfcbmjchaaKTwo
import Derived.Test.YtoicgmfcbmjchaaKRef
import Derived.Deep.DeepCutAuto
import Derived.Test.YtoicgmfcbmjchaaKOp
import Derived.Test.YtoicgmfcbmjchaaKCs
import Derived.Test.YtoicgmfcbmjchaaKPair
/- The document's own Over: one edit behind another one of the same text. Conditions: what memory may hold. -/
namespace Go.Proofs.Ytoicgmfcbmjchaa
open Go.RowKit Go.Deep

/-- What is told of one edit behind another one. -/
def OverEnd (f : Bool) (a b : List CompV) (w : World) (e : Ending) (w' : World) : Prop :=
  (rCheck a ≠ 0 ∧ e = .returned (.tuple #[.slice none 0 0, .int .i64 (rCheck a : Int)])) ∨
  (rCheck a = 0 ∧ rCheck b ≠ 0 ∧ e = .returned (.tuple #[.slice none 0 0, .int .i64 (rCheck b : Int)])) ∨
  (rCheck a = 0 ∧ rCheck b = 0 ∧ rBase a ≠ rBase b ∧ e = .returned (.tuple #[.slice none 0 0, .int .i64 11])) ∨
  (rCheck a = 0 ∧ rCheck b = 0 ∧ rBase a = rBase b ∧ ∃ o, Ov f a b o ∧ (∀ x ∈ o, Small1 x) ∧ o.length ≤ 8000 ∧ ∃ A c, e = .returned (.tuple #[.slice A (rNormal o).length c, .int .i64 0]) ∧
    w'.ownsRow w.heap.size 49 3 (.slice A (rNormal o).length c) (rNormal o).length ((rNormal o).flatMap compCells))
/-- What is so between two parts. -/
structure OvM (f : Bool) (a b : List CompV) (i n j m : Nat) (o : List CompV) : Prop where
  px : Pos a i n
  py : Pos b j m
  go : ∀ o', Ov f (rest a i n) (rest b j m) o' → Ov f a b (o ++ o')
  fit : inS (rest a i n) = inS (rest b j m)
  small : ∀ x ∈ o, Small1 x
  len : o.length + (wt (rest a i n) + wt (rest b j m)) ≤ 8000
namespace OvM
variable {f : Bool} {a b : List CompV} {i n j m i' n' j' m' k : Nat} {o ra rb : List CompV} {x y : CompV}
theorem puts (M : OvM f a b i n j m o) (fa : EdF a) (hra : rest a i n = x :: ra) (hk : x.kind = 2) (hf2 : f = true ∨ kd (rest b j m) ≠ 2) (hr : rest a i' n' = ra) (hp : Pos a i' n') :
    OvM f a b i' n' j m (o ++ [x]) ∧ wt (rest a i' n') + wt (rest b j m) < wt (rest a i n) + wt (rest b j m) := by
  have hx : x ∈ rest a i n := by rw [hra]; simp
  have wx := rest_wh fa.wh M.px x hx
  have hf := M.fit; have hl := M.len; have h0 := wx.sz
  rw [hra, wt_cons] at hl
  rw [hra, inS_cons, in_two hk, Nat.zero_add] at hf
  rw [hra, hr, wt_cons]
  refine ⟨⟨hp, M.py, fun o' h => ?_, by rw [hr]; exact hf, small_snoc M.small (whole_small wx (rest_top fa M.px x hx)), by rw [List.length_append, hr]; simp; omega⟩, by omega⟩
  rw [hr] at h
  rw [List.append_assoc]
  exact M.go _ (by rw [hra]; exact .puts x ra _ _ hk hf2 h)
theorem pass (M : OvM f a b i n j m o) (fb : EdF b) (hrb : rest b j m = y :: rb) (hk : y.kind = 2) (h3 : ¬ (kd (rest a i n) = 2 ∧ f = true)) (hr : rest b j' m' = rb) (hp : Pos b j' m') :
    OvM f a b i n j' m' (o ++ [⟨1, (sz y : Int), []⟩]) ∧ wt (rest a i n) + wt (rest b j' m') < wt (rest a i n) + wt (rest b j m) := by
  have hy : y ∈ rest b j m := by rw [hrb]; simp
  have wy := rest_wh fb.wh M.py y hy
  have hf := M.fit; have hl := M.len; have h0 := wy.sz
  rw [hrb, wt_cons] at hl
  rw [hrb, inS_cons, in_two hk, Nat.zero_add] at hf
  rw [hrb, hr, wt_cons]
  refine ⟨⟨M.px, hp, fun o' h => ?_, by rw [hr]; exact hf, small_snoc M.small (Nat.zero_le _), by rw [List.length_append, hr]; simp; omega⟩, by omega⟩
  rw [hr] at h
  rw [List.append_assoc]
  exact M.go _ (by rw [hrb]; exact .pass _ y rb _ h3 hk h)
theorem both (M : OvM f a b i n j m o) (fa : EdF a) (fb : EdF b) (hra : rest a i n = x :: ra) (hrb : rest b j m = y :: rb) (hx2 : x.kind ≠ 2) (hy2 : y.kind ≠ 2) (hk : k = min (sz x) (sz y))
    (hr : rest a i' n' = chop x ra k) (hp : Pos a i' n') (hr2 : rest b j' m' = chop y rb k) (hp2 : Pos b j' m') {e : List CompV} (he : e = if y.kind = 1 then [piece x k] else []) :
    OvM f a b i' n' j' m' (o ++ e) ∧ wt (rest a i' n') + wt (rest b j' m') < wt (rest a i n) + wt (rest b j m) := by
  have hx : x ∈ rest a i n := by rw [hra]; simp
  have hy : y ∈ rest b j m := by rw [hrb]; simp
  have wx := rest_wh fa.wh M.px x hx
  have wy := rest_wh fb.wh M.py y hy
  have hf := M.fit; have hl := M.len; have h0 := wx.sz; have h1 := wy.sz
  have cx := chop_wt wx ra (k := k) (by omega)
  have cy := chop_wt wy rb (k := k) (by omega)
  have kk := chopped (a := ra) (b := rb) hx2 hy2 hk (by rw [← hra]; exact rest_wh fa.wh M.px) (by rw [← hrb]; exact rest_wh fb.wh M.py)
  have hia := kk.ia; have hib := kk.ib; have h0k := kk.pos
  rw [hra, hrb, wt_cons, wt_cons] at hl
  rw [hra, hrb, hia, hib] at hf
  rw [hra, hrb, hr, hr2, wt_cons, wt_cons]
  have sx := piece_small wx (k := k) (rest_top fa M.px x hx)
  have hel : e.length ≤ 1 ∧ ∀ z ∈ e, Small1 z := by
    rw [he]
    split
    · exact ⟨Nat.le_refl _, fun z hz => by rw [List.mem_singleton.1 hz]; exact sx⟩
    · exact ⟨Nat.zero_le _, fun z hz => by cases hz⟩
  refine ⟨⟨hp, hp2, fun o' h => ?_, by rw [hr, hr2]; omega, fun z hz => ?_, by rw [List.length_append, hr, hr2]; omega⟩, by omega⟩
  · rw [hr, hr2] at h
    rw [List.append_assoc, he]
    exact M.go _ (by rw [hra, hrb]; exact .both x ra y rb o' k hx2 hy2 hk h)
  · rcases List.mem_append.1 hz with hz | hz
    · exact M.small z hz
    · exact hel.2 z hz
end OvM
end Go.Proofs.Ytoicgmfcbmjchaa

/- The landed Keep, and the document's own, with their slice's room. No condition. -/
namespace Go.Proofs.Ytoicgmfcbmjchaa
open Go.RowKit Go.Deep

theorem opKeepC_any (n : Int) (w : World) :
    Calls Try.prog 16 #[.int .i64 n] w fun e w' => ∃ A c, e = .returned (.slice A (keepL n).length c) ∧ CompsC w' A c (keepL n) ∧ Below w.heap.size w w' := by
  by_cases h : n < 1
  · have HK : Hid (keepL n = []) := if_pos h
    rw [HK.out]
    go_enter Try.func16, Try.ntmps16
    go_wp2
    go_ret
    exact ⟨none, 0, rfl, ⟨.inl rfl, Nat.le_refl _⟩, Below.refl _ _⟩
  · have HK : Hid (keepL n = [⟨1, n, []⟩]) := if_neg h
    rw [HK.out]
    have GR := Lib.hid (fun w => opRetain_any n w)
    go_enter Try.func16, Try.ntmps16
    go_wp2_with fail
    refine (GR.out _).mono ?_
    rintro e w1 ⟨rfl, hb1⟩
    have HB1 := Lib.hid hb1; clear hb1
    go_wp2
    go_ret
    refine ⟨some ⟨w1.heap.size, 0, none⟩, 1, rfl, ⟨CellsAt.lit (fun j v hj => ?_) rfl, Nat.le_refl _⟩, HB1.out.alloc HB1.out.size _⟩
    match j, hj with
    | 0, hj => cases hj; rfl
    | 1, hj => cases hj; rfl
    | 2, hj => cases hj; rfl
theorem refKeepC_any (n : Int) (w : World) :
    Calls Try.prog 34 #[.int .i64 n] w fun e w' => ∃ A c, e = .returned (.slice A (keepL n).length c) ∧ CompsC w' A c (keepL n) ∧ Below w.heap.size w w' := by
  by_cases h : n < 1
  · have HK : Hid (keepL n = []) := if_pos h
    rw [HK.out]
    go_enter Try.func34, Try.ntmps34
    go_wp2
    go_ret
    exact ⟨none, 0, rfl, ⟨.inl rfl, Nat.le_refl _⟩, Below.refl _ _⟩
  · have HK : Hid (keepL n = [⟨1, n, []⟩]) := if_neg h
    rw [HK.out]
    go_enter Try.func34, Try.ntmps34
    go_wp2
    go_ret
    refine ⟨some ⟨w.heap.size, 0, none⟩, 1, rfl, ⟨CellsAt.lit (fun j v hj => ?_) rfl, Nat.le_refl _⟩, (Below.refl _ _).alloc (Nat.le_refl _) _⟩
    match j, hj with
    | 0, hj => cases hj; rfl
    | 1, hj => cases hj; rfl
    | 2, hj => cases hj; rfl
end Go.Proofs.Ytoicgmfcbmjchaa

/- The document's own Two, Over and All, told by functions. Conditions: what memory may hold. -/
namespace Go.Proofs.Ytoicgmfcbmjchaa
open Go.RowKit Go.Deep

/-- What is told of an edit that was made, or of an error. -/
def Told (r : List CompV × Nat) (w : World) (e : Ending) (w' : World) : Prop :=
  (∃ A c, e = .returned (.tuple #[.slice A r.1.length c, .int .i64 (r.2 : Int)]) ∧ w'.ownsRow w.heap.size 49 3 (.slice A r.1.length c) r.1.length (r.1.flatMap compCells)) ∧ Held1 r.1 ∧ Below w.heap.size w w'
theorem told_no {e : Ending} {w w' : World} {q : Nat} (h : e = .returned (.tuple #[.slice none 0 0, .int .i64 (q : Int)])) (hb : Below w.heap.size w w') : Told ([], q) w e w' :=
  ⟨⟨none, 0, h, World.ownsRow_nil _ _ _ _⟩, held_nil, hb⟩
theorem refTwo_told (A : Option Addr) (ca : Nat) (a : List CompV) (B : Option Addr) (cb : Nat) (b : List CompV) (hla : a.length ≤ maxLen) (hlb : b.length ≤ maxLen) (hfa : Fine1 a) (hfb : Fine1 b) (w : World) (hA : CompsAt w A a) (hB : CompsAt w B b) :
    Calls Try.prog 10 #[.slice A a.length ca, .slice B b.length cb] w fun e w' => Told (rTwo a b) w e w' := by
  refine (refTwo_any A ca a B cb b hla hlb hfa hfb w hA hB).mono ?_
  rintro e w' ⟨⟨h1, rfl⟩ | ⟨h1, h2, rfl⟩ | ⟨h1, h2, h3, rfl⟩ | ⟨h1, h2, h3, o, ho, hs, hl, A', c', rfl, hown⟩, hb⟩
  · rw [rTwo, if_pos h1]; exact told_no rfl hb
  · rw [rTwo, if_neg (by omega), if_pos h2]; exact told_no rfl hb
  · rw [rTwo, if_neg (by omega), if_neg (by omega), if_pos h3]; exact told_no rfl hb
  · rw [rTwo_yes h1 h2 h3 ho]
    exact ⟨⟨A', c', rfl, hown⟩, (cmp_held h1 h2 h3 ho hs hl).1, hb⟩
theorem keep_held {n : Int} (h : Fit64 n) : Held1 (keepL n) := by
  unfold keepL
  split
  · exact held_nil
  · refine ⟨fun y hy => ?_, by show 1 ≤ _; omega, by show 0 ≤ _; omega⟩
    rw [List.mem_singleton.1 hy]
    exact ⟨by unfold Fit64; simp, h, fun x hx => (by cases hx), Nat.zero_le _⟩
/-- What is told of a row of edits as one. -/
def AllTold (r : List CompV × Nat) (w : World) (e : Ending) (w' : World) : Prop :=
  (∃ A c, e = .returned (.tuple #[.slice A r.1.length c, .int .i64 (r.2 : Int)]) ∧ CompsC w' A c r.1) ∧ Held1 r.1 ∧ Below w.heap.size w w'
set_option maxHeartbeats 2000000 in
set_option maxRecDepth 100000 in
theorem refAll_told (base : Int) (hbase : Fit64 base) (A : Option Addr) (c : Nat) (L : List EditR) (hL : L.length ≤ maxLen) (hf : ∀ x ∈ L, Fine1 x.2.2 ∧ x.2.2.length ≤ maxLen) (w : World) (hA : RowsC w A L) :
    Calls Try.prog 12 #[.int .i64 base, .slice A L.length c] w fun e w' => AllTold (rAll (keepL base, 0) (edits L)) w e w' := by
  have GK := Lib.hid (fun w => refKeepC_any base w)
  have HKH := Lib.hid (keep_held hbase)
  have HA := Lib.hid hA
  have HF := Lib.hid hf
  clear hA hf hbase
  unfold maxLen at hL
  obtain ⟨K, HK⟩ : ∃ K, Hid (keepL base = K) := ⟨_, Lib.hid rfl⟩
  rw [HK.out] at GK HKH ⊢
  have HR0 : Hid (rAll (K, 0) (edits (L.take 0)) = (K, 0)) := by show _ = _; rw [List.take_zero]; exact rAll_nil _
  go_enter Try.func12, Try.ntmps12
  go_wp2_with fail
  refine (GK.out _).mono ?_
  rintro e w1 ⟨A1, c1, rfl, hk, hb⟩
  have HB1 := Lib.hid hb; clear hb
  have HK1 := Lib.hid hk; clear hk
  go_wp2
  go_loopw [6, 7] (fun o i wr => ∃ (k : Nat) (A0 : Option Addr) (c0 : Nat), k ≤ L.length ∧ i = .int .i64 k ∧ o = .slice A0 (rAll (K, 0) (edits (L.take k))).1.length c0 ∧ (rAll (K, 0) (edits (L.take k))).2 = 0 ∧ Held1 (rAll (K, 0) (edits (L.take k))).1 ∧
    CompsC wr A0 c0 (rAll (K, 0) (edits (L.take k))).1 ∧ Below w.heap.size w wr) (fun _ i _ => L.length - (intOf i).toNat)
  case atStart => exact ⟨0, A1, c1, Nat.zero_le _, rfl, by rw [HR0.out], by rw [HR0.out], by rw [HR0.out]; exact HKH.out, by rw [HR0.out]; exact HK1.out, HB1.out⟩
  case round =>
    obtain ⟨k, A0, c0, hk, rfl, rfl, hz, hh, hc, hb⟩ := hrel
    have HZ := Lib.hid hz
    have HH := Lib.hid hh
    have HC := Lib.hid hc
    have HB := Lib.hid hb
    clear hz hh hc hb
    by_cases hlt : k < L.length
    · obtain ⟨b, off, rfl, _⟩ := HA.out.form (by omega)
      have hcell := ((HA.out.below HB.out).cell hlt).1
      have HCX := Lib.hid ((HA.out.below HB.out).cell hlt).2
      have HFX := Lib.hid (HF.out _ (List.getElem_mem hlt))
      have HS : Hid (rAll (K, 0) (edits (L.take (k + 1))) = rTwo (rAll (K, 0) (edits (L.take k))).1 L[k].2.2) := by
        show _ = _
        rw [List.take_succ_eq_append_getElem hlt, edits, List.map_append, List.map_singleton, rAll_snoc, rAllStep, if_neg (by rw [show List.map (fun x : EditR => x.2.2) (L.take k) = edits (L.take k) from rfl, HZ.out]; simp)]
        rfl
      have HOFF : Hid ((rTwo (rAll (K, 0) (edits (L.take k))).1 L[k].2.2).2 ≠ 0 → rAll (K, 0) (edits L) = rTwo (rAll (K, 0) (edits (L.take k))).1 L[k].2.2) := fun h => by
        have e : edits L = edits (L.take (k + 1)) ++ edits (L.drop (k + 1)) := by rw [edits, edits, edits, ← List.map_append, List.take_append_drop]
        rw [e, rAll_append, HS.out, rAll_off h]
      generalize L[k] = x at hcell HCX HFX HS HOFF
      obtain ⟨AX, cx, lx⟩ := x
      simp only at hcell HCX HFX HS HOFF
      generalize (rAll (K, 0) (edits (L.take k))).1 = P at HH HC HS HOFF ⊢
      have GT := Lib.hid (refTwo_told A0 c0 P AX cx lx (by have := HH.out.len; unfold maxLen; omega) HFX.out.2 HH.out.fine HFX.out.1 wr HC.out.1 HCX.out.1)
      obtain ⟨R, HR⟩ : ∃ R, Hid (rTwo P lx = R) := ⟨_, Lib.hid rfl⟩
      rw [HR.out] at GT HS HOFF
      obtain ⟨r1, q⟩ := R
      simp only at HOFF
      go_wp2_with fail
      refine GT.out.mono ?_
      rintro e w2 ⟨⟨A2, c2, rfl, hown⟩, hh2, hb2⟩
      simp only at hown hh2
      have HB2 : Hid (Below w.heap.size w w2) := HB.out.trans (hb2.mono HB.out.size)
      have HC2 := Lib.hid (CompsC.of_own hown)
      have HH2 := Lib.hid hh2
      clear hown hh2 hb2
      by_cases hq : q = 0
      · subst hq
        go_wp2
        go_roundw
        case rel => exact ⟨k + 1, A2, c2, by omega, by go_num, by rw [HS.out], by rw [HS.out], by rw [HS.out]; exact HH2.out, by rw [HS.out]; exact HC2.out, HB2.out⟩
        case measure => simp [intOf]; omega
      · have q1 : ((q : Int) != 0) = true := bne_iff_ne.2 (by omega)
        have q2 : ((q : Int) == 0) = false := beq_eq_false_iff_ne.2 (by omega)
        have HR1 : Hid (r1 = []) := by show _ = _; have := rTwo_off (a := P) (b := lx) (by rw [HR.out]; exact hq); rw [HR.out] at this; exact this
        have HE : Hid (AllTold (rAll (K, 0) (edits L)) w (.returned (.tuple #[.slice none 0 0, .int .i64 (q : Int)])) w2) := by
          show AllTold _ _ _ _
          rw [HOFF.out hq, HR1.out]
          exact ⟨⟨none, 0, rfl, .inl rfl, Nat.le_refl _⟩, held_nil, HB2.out⟩
        clear hq
        go_wp2
        go_ret2
        exact HE.out
    · have hke : L.take k = L := List.take_of_length_le (by omega)
      rw [hke] at HZ HH HC ⊢
      have HE : Hid (AllTold (rAll (K, 0) (edits L)) w (.returned (.tuple #[.slice A0 (rAll (K, 0) (edits L)).1.length c0, .int .i64 0])) wr) :=
        ⟨⟨A0, c0, by rw [HZ.out]; rfl, HC.out⟩, HH.out, HB.out⟩
      clear hke
      go_wp2
      go_ret2
      exact HE.out
end Go.Proofs.Ytoicgmfcbmjchaa
