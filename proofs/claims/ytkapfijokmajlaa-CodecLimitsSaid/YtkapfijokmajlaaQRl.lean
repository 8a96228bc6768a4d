/- The landed reader, codec.Reader: the contract of Acts. Condition: no more than 2^40 bytes. (Merged of 7 texts.) -/
import Derived.Test.YtkapfijokmajlaaQRd
import Derived.Laws.Rows
import Derived.Test.YtkapfijokmajlaaQIn
/- Records that the landed reader makes: what lemmas its record readers share. No condition. -/
namespace Go.Proofs.Ytkapfijokmajlaa
open Go.RowKit Go.Deep

theorem rowIs_cells {w : World} {b : Nat} {t : TypeId} {f : Nat → Value} (cs : Array Value) (h : w.rowIs b t cs.size f) (hc : ∀ i, i < cs.size → cs[i]? = some (f i)) : w.heap[b]? = some (.cells cs t (0, 0)) := by
  obtain ⟨c, hb, hs, hf⟩ := h
  have e : c = cs := by
    apply Array.ext hs
    intro i h1 h2
    have h3 := hf i h2
    have h4 := hc i h2
    rw [Array.getElem?_eq_getElem h1] at h3
    rw [Array.getElem?_eq_getElem h2] at h4
    injection h3 with h3
    injection h4 with h4
    rw [h3, h4]
  rw [← e]
  exact hb
theorem Only.setNew {g ga i : Nat} {w w' : World} {v : Value} (h : Only g w w') (hga : w.heap.size ≤ ga) : Only g w (w'.setCell ⟨ga, i, none⟩ v) :=
  ⟨h.os, h.tape, h.output, by simpa [World.setCell] using h.size, fun k hk hkg => (Below.heap_setCell w' ⟨ga, i, none⟩ v k (by show k ≠ ga; omega)).trans (h.block k hk hkg)⟩
theorem RdrAt.setNew {W w : World} {g ga i : Nat} {s : Rd} {v : Value} (h : RdrAt W g s w) (hga : g < ga) : RdrAt W g s (w.setCell ⟨ga, i, none⟩ v) := by
  have hge : W.heap.size ≤ g := by obtain ⟨_, _, _, _, _, _, _, hge, _⟩ := h; exact hge
  exact h.kept ((Only.refl ga w).set i v) (by omega) (by omega)
/-- The block ga holds a record that the call makes; the reader is at s; nothing else of w0 was written. -/
def RecR (W : World) (g ga : Nat) (t : TypeId) (sz : Nat) (w0 : World) (s : Rd) (f : Nat → Value) (w : World) : Prop :=
  RdrAt W g s w ∧ Only g w0 w ∧ w.rowIs ga t sz f ∧ w0.heap.size ≤ ga ∧ g < ga
namespace RecR
variable {W w0 w w' : World} {g ga : Nat} {t : TypeId} {sz : Nat} {s s' : Rd} {f : Nat → Value}
theorem start (h : RdrAt W g s w) (c : Array Value) (t : TypeId) : RecR W g w.heap.size t c.size w s (fun i => (c[i]?).getD undef) (w.alloc (.cells c t)) := by
  have hb : Below w.heap.size w (w.alloc (.cells c t)) := (Below.refl _ _).alloc (Nat.le_refl _) _
  exact ⟨h.below hb, Only.of_below hb, World.rowIs_alloc w c t _ (fun i hi => by simp [hi]), Nat.le_refl _, h.lt⟩
theorem call (h : RecR W g ga t sz w0 s f w) (hin : RdrAt W g s' w') (hon : Only g w w') : RecR W g ga t sz w0 s' f w' := by
  obtain ⟨_, h2, h3, h4, h5⟩ := h
  exact ⟨hin, h2.trans hon, h3.of_block (hon.block ga h3.lt (by omega)), h4, h5⟩
theorem store (h : RecR W g ga t sz w0 s f w) (i : Nat) (v : Value) : RecR W g ga t sz w0 s (fun j => if j = i then v else f j) (w.setCell ⟨ga, i, none⟩ v) := by
  obtain ⟨h1, h2, h3, h4, h5⟩ := h
  exact ⟨h1.setNew h5, h2.setNew h4, h3.set i v, h4, h5⟩
end RecR
end Go.Proofs.Ytkapfijokmajlaa

/- The landed reader, codec.Reader: the contract of its rdrComp. Condition: no more than 2^40 bytes. -/
namespace Go.Proofs.Ytkapfijokmajlaa
open Go.RowKit Go.Deep

set_option maxHeartbeats 2000000 in
set_option maxRecDepth 100000 in
theorem rdrComp_any (W : World) (g : Nat) (s : Rd) (hl : s.1.length ≤ 1099511627776) (w : World) (h : RdrAt W g s w) :
    Calls Try.prog 60 #[.pointer (some ⟨g, 0, none⟩)] w fun e w' => e = .returned (.agg #[.int .i64 (rdComp s).2.kind, .int .i64 (rdComp s).2.n, .string (bstr (rdComp s).2.text)]) ∧ RdrAt W g (rdComp s).1 w' ∧ Only g w w' := by
  have HRC : Hid (rdComp s = ((rdText 8000 (rdNum (rdNum s).1).1).1, ⟨((rdNum s).2 : Int), ((rdNum (rdNum s).1).2 : Int), (rdText 8000 (rdNum (rdNum s).1).1).2⟩)) := rfl
  have H := Lib.hid h; clear h
  have HB0 := Lib.hid hl; clear hl
  have G1 := Lib.hid (fun w h => rdrNum_any W g s w h)
  have HB1 := Lib.hid (Nat.le_trans (rdNum_length s) HB0.out)
  obtain ⟨X1, HX1⟩ : ∃ X, Hid (rdNum s = X) := ⟨_, rfl⟩
  rw [HX1.out] at G1 HB1 HRC
  obtain ⟨s1, a⟩ := X1
  simp only at G1 HB1 HRC
  have G2 := Lib.hid (fun w h => rdrNum_any W g s1 w h)
  have HB2 := Lib.hid (Nat.le_trans (rdNum_length s1) HB1.out)
  obtain ⟨X2, HX2⟩ : ∃ X, Hid (rdNum s1 = X) := ⟨_, rfl⟩
  rw [HX2.out] at G2 HB2 HRC
  obtain ⟨s2, b⟩ := X2
  simp only at G2 HB2 HRC
  have G3 := Lib.hid (fun w h => rdrText_any W g s2 8000 HB2.out w h)
  have HB3 := Lib.hid (Nat.le_trans (rdText_length 8000 s2) HB2.out)
  obtain ⟨X3, HX3⟩ : ∃ X, Hid (rdText 8000 s2 = X) := ⟨_, rfl⟩
  rw [HX3.out] at G3 HB3 HRC
  obtain ⟨s3, tx⟩ := X3
  simp only at G3 HB3 HRC
  rw [HRC.out]
  go_enter Try.func60, Try.ntmps60
  go_wp2_with fail
  have HR0 := Lib.hid (RecR.start H.out #[.int .i64 0, .int .i64 0, .string { data := #[] }] 94)
  obtain ⟨w0, HW0⟩ : ∃ w0, Hid (w.alloc (.cells #[.int .i64 0, .int .i64 0, .string { data := #[] }] 94) = w0) := ⟨_, rfl⟩
  obtain ⟨ga, HGA⟩ : ∃ ga, Hid (w.heap.size = ga) := ⟨_, rfl⟩
  have HGE : Hid (w.heap.size ≤ ga) := by show w.heap.size ≤ ga; rw [HGA.out]; exact Nat.le_refl _
  rw [HW0.out, HGA.out] at HR0
  rw [HW0.out, HGA.out]
  refine (G1.out _ HR0.out.1).mono ?_
  rintro e w1 ⟨rfl, hin, hon⟩
  have HR1 := Lib.hid (HR0.out.call hin hon); clear hin hon
  go_wp2_with fail
  refine (G2.out _ HR1.out.1).mono ?_
  rintro e w2 ⟨rfl, hin, hon⟩
  have HR2 := Lib.hid (HR1.out.call hin hon); clear hin hon
  go_wp2_with fail
  refine (G3.out _ HR2.out.1).mono ?_
  rintro e w3 ⟨rfl, hin, hon⟩
  have HR3 := Lib.hid (HR2.out.call hin hon); clear hin hon
  have k0 := HR3.out
  have k1 := k0.store 0 (.int .i64 (a : Int))
  have x0 := k0.2.2.1.cell (i := 0) (by show 0 < 3; omega)
  have f0 := k0.2.2.1.frozen 0
  have k2 := k1.store 1 (.int .i64 (b : Int))
  have x1 := k1.2.2.1.cell (i := 1) (by show 1 < 3; omega)
  have f1 := k1.2.2.1.frozen 1
  have k3 := k2.store 2 (.string (bstr tx))
  have x2 := k2.2.2.1.cell (i := 2) (by show 2 < 3; omega)
  have f2 := k2.2.2.1.frozen 2
  replace x0 : World.cell? _ ⟨ga, 0, none⟩ = some (.int .i64 0) := x0
  replace x1 : World.cell? _ ⟨ga, 1, none⟩ = some (.int .i64 0) := x1
  replace x2 : World.cell? _ ⟨ga, 2, none⟩ = some (.string { data := #[] }) := x2
  have HK := Lib.hid k3
  clear k0 k1 k2 k3
  go_wp2_with fail
  have hg := rowIs_cells #[.int .i64 (a : Int), .int .i64 (b : Int), .string (bstr tx)] HK.out.2.2.1 (fun i hi => by
    have hi' : i < 3 := hi
    have : i = 0 ∨ i = 1 ∨ i = 2 := by omega
    rcases this with rfl | rfl | rfl <;> rfl)
  (try simp only [Exit.inBlock, Exit.then])
  refine bodyPost_ret (results_cell_row rfl _ _ ga 94 #[.int .i64 (a : Int), .int .i64 (b : Int), .string (bstr tx)] (0, 0) _ rfl hg Try.underlying94 rfl (by kernel_rfl)) rfl ?_
  exact ⟨rfl, HK.out.1, HK.out.2.1⟩
end Go.Proofs.Ytkapfijokmajlaa

/- The landed reader, codec.Reader: the contract of Comps. Condition: no more than 2^40 bytes. -/
namespace Go.Proofs.Ytkapfijokmajlaa
open Go.RowKit Go.Deep

theorem rdComp_length (s : Rd) : (rdComp s).1.1.length ≤ s.1.length := Nat.le_trans (rdText_length 8000 _) (Nat.le_trans (rdNum_length _) (rdNum_length s))

/-- What the loop holds behind k rounds. -/
def ManyR {α : Type} (f : Rd → Rd × α) (cells : α → List Value) (t : TypeId) (sz : Nat) (W w : World) (g n : Nat) (s0 : Rd) (k : Nat) (v : Value) (wr : World) : Prop :=
  ∃ s l, RdrAt W g s wr ∧ Only g w wr ∧ wr.ownsRow w.heap.size t sz v l.length (l.flatMap cells) ∧ l.length = k ∧ s.1.length ≤ 1099511627776 ∧ rdMany f n s0 = ((rdMany f (n - k) s).1, l ++ (rdMany f (n - k) s).2) ∧ (s.2 = 0 ∨ n = 0)

set_option maxHeartbeats 4000000 in
set_option maxRecDepth 100000 in
theorem rdrListComps_any (W : World) (g : Nat) (s : Rd) (hl : s.1.length ≤ 1099511627776) (w : World) (h : RdrAt W g s w) :
    Calls Try.prog 59 #[.pointer (some ⟨g, 0, none⟩), .int .i64 100, .func (.func 60) #[.pointer (some ⟨g, 0, none⟩)] #[]] w fun e w' => (∃ A c, e = .returned (.slice A (rdComps s).2.length c) ∧ w'.ownsRow w.heap.size 94 3 (.slice A (rdComps s).2.length c) (rdComps s).2.length ((rdComps s).2.flatMap compCells)) ∧ RdrAt W g (rdComps s).1 w' ∧ Only g w w' := by
  obtain ⟨i0, hi0, hz0, hz1, hz2⟩ := info_parts comp_info
  have HI := Lib.hid (And.intro hi0 (And.intro hz0 (And.intro hz1 hz2)))
  clear hi0 hz0 hz1 hz2
  have GN := Lib.hid (rdrNum_any W g s w h)
  have HGL := Lib.hid h.lt
  clear h
  have HSL := Lib.hid (Nat.le_trans (rdNum_length s) hl)
  clear hl
  have HOK := Lib.hid (rdNum_ok s)
  have HLE := Lib.hid (rdNum_le s)
  have HCT : Hid (rdCount 100 s = if (rdNum s).1.2 = 0 ∧ (rdNum s).2 > 100 then (((rdNum s).1.1, 3), 0) else rdNum s) := rfl
  have HE : Hid (rdComps s = ((rdMany rdComp (rdCount 100 s).2 (rdCount 100 s).1).1, if (rdMany rdComp (rdCount 100 s).2 (rdCount 100 s).1).1.2 = 0 then (rdMany rdComp (rdCount 100 s).2 (rdCount 100 s).1).2 else [])) := rfl
  obtain ⟨X, HX⟩ : ∃ X, Hid (rdNum s = X) := ⟨_, rfl⟩
  rw [HX.out] at GN HSL HOK HCT HLE
  obtain ⟨s0, n⟩ := X
  simp only at GN HSL HOK HCT HLE
  have hle := HLE.out
  by_cases hn : 100 < n
  · have h0 := HOK.out (by omega)
    have e : Hid (rdComps s = ((s0.1, 3), [])) := by
      show rdComps s = _
      rw [HE.out, HCT.out, if_pos ⟨h0, hn⟩]
      rfl
    rw [e.out]
    have H0 := Lib.hid h0; clear h0
    go_enter Try.func59, Try.ntmps59
    go_wp2
    refine wp_scope_fwd ?_
    go_wp2_with fail
    refine GN.out.mono ?_
    rintro e w1 ⟨rfl, hin, hon⟩
    have GS := Lib.hid (rdStop_ok W g s0 3 H0.out (by decide) s0.1 w1 hin)
    have HON := Lib.hid hon; clear hon hin
    go_wp2_with fail
    refine GS.out.mono ?_
    rintro e w2 ⟨rfl, h2, o2⟩
    have H2 := Lib.hid h2; have O2 := Lib.hid o2; clear h2 o2
    go_wp2_with fail
    go_step3
    refine ⟨_, rfl, ?_⟩
    go_wp2
    rw [Exit.noGoto_ret]
    go_ret
    exact ⟨⟨none, 0, rfl, World.ownsRow_nil _ _ _ _⟩, H2.out, HON.out.trans O2.out⟩
  · have hct : rdCount 100 s = (s0, n) := by rw [HCT.out, if_neg (by omega)]
    rw [hct] at HE
    simp only at HE
    clear hct
    have HEND : Hid (∀ (s1 : Rd) (l : List CompV) (k : Nat), (k = n ∨ s1.2 ≠ 0) → k ≤ n → rdMany rdComp n s0 = ((rdMany rdComp (n - k) s1).1, l ++ (rdMany rdComp (n - k) s1).2) → rdComps s = (s1, if s1.2 = 0 then l else [])) := by
      intro s1 l k hk hkn hm
      have h1 : rdMany rdComp (n - k) s1 = (s1, []) := by
        rcases hk with rfl | hk
        · rw [Nat.sub_self]; rfl
        · cases hnk : n - k with
          | zero => rfl
          | succ m => rw [rdMany, if_neg hk]
      rw [h1, List.append_nil] at hm
      rw [HE.out, hm]
    have HSTEP : Hid (∀ (s1 : Rd) (l : List CompV) (k : Nat), s1.2 = 0 → k < n → rdMany rdComp n s0 = ((rdMany rdComp (n - k) s1).1, l ++ (rdMany rdComp (n - k) s1).2) →
        rdMany rdComp n s0 = ((rdMany rdComp (n - (k + 1)) (rdComp s1).1).1, (l ++ [(rdComp s1).2]) ++ (rdMany rdComp (n - (k + 1)) (rdComp s1).1).2)) := by
      intro s1 l k h0 hk hm
      rw [hm, show n - k = (n - (k + 1)) + 1 by omega, rdMany, if_pos h0]
      simp
    have HN0 : Hid (s0.2 = 0 ∨ n = 0) := by
      by_cases h0 : n = 0
      · exact .inr h0
      · exact .inl (HOK.out (by omega))
    go_enter Try.func59, Try.ntmps59
    go_wp2
    refine wp_scope_fwd ?_
    go_wp2_with fail
    refine GN.out.mono ?_
    rintro e w1 ⟨rfl, hin, hon⟩
    have HIN := Lib.hid hin; have HON := Lib.hid hon; clear hin hon
    go_wp2_with fail
    go_loopw [7, 17] (fun v i wr => ∃ k : Nat, k ≤ n ∧ i = .int .i64 k ∧ ManyR rdComp compCells 94 3 W w g n s0 k v wr) (fun _ i _ => n - (intOf i).toNat)
    case atStart => exact ⟨0, Nat.zero_le _, rfl, s0, [], HIN.out, HON.out, World.ownsRow_nil _ _ _ _, rfl, HSL.out, by simp, HN0.out⟩
    case round =>
      obtain ⟨k, hk, rfl, s1, l, hin, hon, hown, hlk, hsl, hm, hz⟩ := hrel
      have HIN1 := Lib.hid hin; clear hin
      have HON1 := Lib.hid hon; clear hon
      have HOWN := Lib.hid hown; clear hown
      have HM := Lib.hid hm; clear hm
      have HSL1 := Lib.hid hsl; clear hsl
      have HLK := Lib.hid hlk; clear hlk
      have HZ := Lib.hid hz; clear hz
      obtain ⟨A4, c4, rfl⟩ := own_slice HOWN.out
      by_cases hlt : k < n
      · have hz1 : s1.2 = 0 := by rcases HZ.out with h | h; exact h; omega
        have hst := HSTEP.out s1 (l) k hz1 hlt HM.out
        have HST := Lib.hid hst; clear hst
        have GR := Lib.hid (rdrComp_any W g s1 HSL1.out wr HIN1.out)
        have HRL : Hid ((rdComp s1).1.1.length ≤ 1099511627776) := Nat.le_trans (rdComp_length s1) HSL1.out
        obtain ⟨Y, HY⟩ : ∃ Y, Hid (rdComp s1 = Y) := ⟨_, rfl⟩
        rw [HY.out] at HST GR HRL
        obtain ⟨s2, y⟩ := Y
        simp only at HST GR HRL
        clear hz1
        go_wp2_with fail
        refine GR.out.mono ?_
        rintro e w4 ⟨rfl, hin4, hon4⟩
        have HIN4 := Lib.hid hin4; have HON4 := Lib.hid hon4; clear hin4 hon4
        obtain ⟨y1, y2, y3⟩ := y
        have HO4 := Lib.hid (own_only HOWN.out HON4.out HGL.out)
        have HU4 := Lib.hid (HON1.out.trans HON4.out)
        have HU5 := Lib.hid (HU4.out.trans (Only.of_below ((Below.refl _ _).alloc (Nat.le_refl _) (.cells #[.int .i64 y1, .int .i64 y2, .string (bstr y3)] 94))))
        have HIN5 := Lib.hid (HIN4.out.below ((Below.refl _ _).alloc (Nat.le_refl _) (.cells #[.int .i64 y1, .int .i64 y2, .string (bstr y3)] 94)))
        go_wp2_with (at_builtin
                     refine wpList_append_own_wide _ rfl (.tmp 19) (.tmp 22) 41 rfl w.heap.size 94 i0 (.agg #[.int .i64 0, .int .i64 0, .string { data := #[] }]) 3 32 Try.underlying41 HI.out.1 HI.out.2.1 HI.out.2.2.1 HI.out.2.2.2 rfl (by omega) (.slice A4 l.length c4) l.length (l.flatMap compCells) rfl (HO4.out.alloc _) ⟨w4.heap.size, 0, none⟩ 1 1 [.int .i64 y1, .int .i64 y2, .string (bstr y3)] rfl rfl ?_ ?_ (by have := HLK.out; simp only [maxLen]; omega) (by have := HLK.out; omega) (by have := HU4.out.size; simp; omega) ?_
                     · intro j u hj
                       rw [Go.WideShapes.add_plain, Nat.zero_add, cell_of_row _ _ _ _ _ _ (heap_alloc_new w4 _)]
                       simpa using hj
                     · intro u hu; simp at hu; rcases hu with rfl | rfl | rfl <;> rfl
                     intro v6 w6 hown6 hgr6 _
                     have HOWN6 := Lib.hid hown6
                     have HU6 := Lib.hid (HU5.out.grown hgr6 (fun k hk => (HO4.out.lt k hk).1))
                     have HIN6 := Lib.hid (HIN5.out.grown hgr6 (fun k hk => Nat.lt_of_lt_of_le HGL.out (HO4.out.lt k hk).1))
                     clear hown6 hgr6)
        have GE := Lib.hid (rdErr_any W g s2 w6 HIN6.out)
        refine GE.out.mono ?_
        rintro e w' ⟨rfl, rfl⟩
        by_cases hE : s2.2 = 0
        · have hE' : ((s2.2 : Int) != 0) = false := by rw [hE]; rfl
          go_wp2
          go_roundw
          case rel =>
            refine ⟨k + 1, by omega, by go_num, s2, (l ++ [⟨y1, y2, y3⟩]), HIN6.out, HU6.out, ?_, by rw [List.length_append, HLK.out]; rfl, HRL.out, ?_, .inl hE⟩
            · rw [List.length_append, List.flatMap_append]
              simpa [compCells] using HOWN6.out
            · exact HST.out
          case measure => simp [intOf]; omega
        · have hE' : ((s2.2 : Int) != 0) = true := by simp; omega
          have e : Hid (rdComps s = (s2, [])) := by
            have := HEND.out s2 _ (k + 1) (.inr hE) (by omega) HST.out
            rw [if_neg hE] at this
            exact this
          clear hE
          go_wp2_with fail
          go_step3
          refine ⟨_, rfl, ?_⟩
          go_wp2
          rw [Exit.noGoto_ret]
          go_ret
          rw [e.out]
          exact ⟨⟨none, 0, rfl, World.ownsRow_nil _ _ _ _⟩, HIN6.out, HU6.out⟩
      · have hkn : k = n := by omega
        have e := HEND.out s1 (l) k (.inl hkn) hk HM.out
        have e2 : rdComps s = (s1, l) := by
          rw [e]
          by_cases h0 : s1.2 = 0
          · rw [if_pos h0]
          · have hn0 : n = 0 := by rcases HZ.out with h | h; exact absurd h h0; exact h
            have : l = [] := List.eq_nil_of_length_eq_zero (by rw [HLK.out]; omega)
            rw [if_neg h0, this]
        have E2 := Lib.hid e2; clear e e2 hkn
        go_wp2
        rw [fwd_ret]
        go_ret
        rw [E2.out]
        exact ⟨⟨A4, c4, rfl, HOWN.out⟩, HIN1.out, HON1.out⟩

set_option maxRecDepth 100000 in
theorem rdrComps_any (W : World) (g : Nat) (s : Rd) (hl : s.1.length ≤ 1099511627776) (w : World) (h : RdrAt W g s w) :
    Calls Try.prog 22 #[.pointer (some ⟨g, 0, none⟩)] w fun e w' => (∃ A c, e = .returned (.slice A (rdComps s).2.length c) ∧ w'.ownsRow w.heap.size 94 3 (.slice A (rdComps s).2.length c) (rdComps s).2.length ((rdComps s).2.flatMap compCells)) ∧ RdrAt W g (rdComps s).1 w' ∧ Only g w w' := by
  have GL := Lib.hid (rdrListComps_any W g s hl w h)
  clear h
  go_enter Try.func22, Try.ntmps22
  go_wp2_with fail
  refine GL.out.mono ?_
  rintro e w1 ⟨⟨A, c, rfl, h2⟩, hin, hon⟩
  have HIN := Lib.hid hin; have HON := Lib.hid hon; have H2 := Lib.hid h2; clear hin hon h2
  go_wp2
  go_ret
  exact ⟨⟨A, c, rfl, H2.out⟩, HIN.out, HON.out⟩
end Go.Proofs.Ytkapfijokmajlaa

/- The landed reader, codec.Reader: the contract of its rdrNode. Condition: no more than 2^40 bytes. -/
namespace Go.Proofs.Ytkapfijokmajlaa
open Go.RowKit Go.Deep

set_option maxHeartbeats 2000000 in
set_option maxRecDepth 100000 in
theorem rdrNode_any (W : World) (g : Nat) (s : Rd) (hl : s.1.length ≤ 1099511627776) (w : World) (h : RdrAt W g s w) :
    Calls Try.prog 66 #[.pointer (some ⟨g, 0, none⟩)] w fun e w' => e = .returned (.agg #[.int .i64 (rdNode s).2.id, .int .i64 (rdNode s).2.parent, .string (bstr (rdNode s).2.name), .bool (rdNode s).2.dir, .string (bstr (rdNode s).2.text)]) ∧ RdrAt W g (rdNode s).1 w' ∧ Only g w w' := by
  have HRC : Hid (rdNode s = ((rdText 8000 (rdFlag (rdText 100 (rdNum (rdNum s).1).1).1).1).1,
    ⟨((rdNum s).2 : Int), ((rdNum (rdNum s).1).2 : Int), (rdText 100 (rdNum (rdNum s).1).1).2, (rdFlag (rdText 100 (rdNum (rdNum s).1).1).1).2, (rdText 8000 (rdFlag (rdText 100 (rdNum (rdNum s).1).1).1).1).2⟩)) := rfl
  have H := Lib.hid h; clear h
  have HB0 := Lib.hid hl; clear hl
  have G1 := Lib.hid (fun w h => rdrNum_any W g s w h)
  have HB1 := Lib.hid (Nat.le_trans (rdNum_length s) HB0.out)
  obtain ⟨X1, HX1⟩ : ∃ X, Hid (rdNum s = X) := ⟨_, rfl⟩
  rw [HX1.out] at G1 HB1 HRC
  obtain ⟨s1, a⟩ := X1
  simp only at G1 HB1 HRC
  have G2 := Lib.hid (fun w h => rdrNum_any W g s1 w h)
  have HB2 := Lib.hid (Nat.le_trans (rdNum_length s1) HB1.out)
  obtain ⟨X2, HX2⟩ : ∃ X, Hid (rdNum s1 = X) := ⟨_, rfl⟩
  rw [HX2.out] at G2 HB2 HRC
  obtain ⟨s2, b⟩ := X2
  simp only at G2 HB2 HRC
  have G3 := Lib.hid (fun w h => rdrText_any W g s2 100 HB2.out w h)
  have HB3 := Lib.hid (Nat.le_trans (rdText_length 100 s2) HB2.out)
  obtain ⟨X3, HX3⟩ : ∃ X, Hid (rdText 100 s2 = X) := ⟨_, rfl⟩
  rw [HX3.out] at G3 HB3 HRC
  obtain ⟨s3, nm⟩ := X3
  simp only at G3 HB3 HRC
  have G4 := Lib.hid (fun w h => rdrFlag_any W g s3 w h)
  have HB4 := Lib.hid (Nat.le_trans (rdFlag_length s3) HB3.out)
  obtain ⟨X4, HX4⟩ : ∃ X, Hid (rdFlag s3 = X) := ⟨_, rfl⟩
  rw [HX4.out] at G4 HB4 HRC
  obtain ⟨s4, fl⟩ := X4
  simp only at G4 HB4 HRC
  have G5 := Lib.hid (fun w h => rdrText_any W g s4 8000 HB4.out w h)
  have HB5 := Lib.hid (Nat.le_trans (rdText_length 8000 s4) HB4.out)
  obtain ⟨X5, HX5⟩ : ∃ X, Hid (rdText 8000 s4 = X) := ⟨_, rfl⟩
  rw [HX5.out] at G5 HB5 HRC
  obtain ⟨s5, tx⟩ := X5
  simp only at G5 HB5 HRC
  rw [HRC.out]
  go_enter Try.func66, Try.ntmps66
  go_wp2_with fail
  have HR0 := Lib.hid (RecR.start H.out #[.int .i64 0, .int .i64 0, .string { data := #[] }, .bool false, .string { data := #[] }] 57)
  obtain ⟨w0, HW0⟩ : ∃ w0, Hid (w.alloc (.cells #[.int .i64 0, .int .i64 0, .string { data := #[] }, .bool false, .string { data := #[] }] 57) = w0) := ⟨_, rfl⟩
  obtain ⟨ga, HGA⟩ : ∃ ga, Hid (w.heap.size = ga) := ⟨_, rfl⟩
  have HGE : Hid (w.heap.size ≤ ga) := by show w.heap.size ≤ ga; rw [HGA.out]; exact Nat.le_refl _
  rw [HW0.out, HGA.out] at HR0
  rw [HW0.out, HGA.out]
  refine (G1.out _ HR0.out.1).mono ?_
  rintro e w1 ⟨rfl, hin, hon⟩
  have HR1 := Lib.hid (HR0.out.call hin hon); clear hin hon
  go_wp2_with fail
  refine (G2.out _ HR1.out.1).mono ?_
  rintro e w2 ⟨rfl, hin, hon⟩
  have HR2 := Lib.hid (HR1.out.call hin hon); clear hin hon
  go_wp2_with fail
  refine (G3.out _ HR2.out.1).mono ?_
  rintro e w3 ⟨rfl, hin, hon⟩
  have HR3 := Lib.hid (HR2.out.call hin hon); clear hin hon
  go_wp2_with fail
  refine (G4.out _ HR3.out.1).mono ?_
  rintro e w4 ⟨rfl, hin, hon⟩
  have HR4 := Lib.hid (HR3.out.call hin hon); clear hin hon
  go_wp2_with fail
  refine (G5.out _ HR4.out.1).mono ?_
  rintro e w5 ⟨rfl, hin, hon⟩
  have HR5 := Lib.hid (HR4.out.call hin hon); clear hin hon
  have k0 := HR5.out
  have k1 := k0.store 0 (.int .i64 (a : Int))
  have x0 := k0.2.2.1.cell (i := 0) (by show 0 < 5; omega)
  have f0 := k0.2.2.1.frozen 0
  have k2 := k1.store 1 (.int .i64 (b : Int))
  have x1 := k1.2.2.1.cell (i := 1) (by show 1 < 5; omega)
  have f1 := k1.2.2.1.frozen 1
  have k3 := k2.store 2 (.string (bstr nm))
  have x2 := k2.2.2.1.cell (i := 2) (by show 2 < 5; omega)
  have f2 := k2.2.2.1.frozen 2
  have k4 := k3.store 3 (.bool fl)
  have x3 := k3.2.2.1.cell (i := 3) (by show 3 < 5; omega)
  have f3 := k3.2.2.1.frozen 3
  have k5 := k4.store 4 (.string (bstr tx))
  have x4 := k4.2.2.1.cell (i := 4) (by show 4 < 5; omega)
  have f4 := k4.2.2.1.frozen 4
  replace x0 : World.cell? _ ⟨ga, 0, none⟩ = some (.int .i64 0) := x0
  replace x1 : World.cell? _ ⟨ga, 1, none⟩ = some (.int .i64 0) := x1
  replace x2 : World.cell? _ ⟨ga, 2, none⟩ = some (.string { data := #[] }) := x2
  replace x3 : World.cell? _ ⟨ga, 3, none⟩ = some (.bool false) := x3
  replace x4 : World.cell? _ ⟨ga, 4, none⟩ = some (.string { data := #[] }) := x4
  have HK := Lib.hid k5
  clear k0 k1 k2 k3 k4 k5
  go_wp2_with fail
  have hg := rowIs_cells #[.int .i64 (a : Int), .int .i64 (b : Int), .string (bstr nm), .bool fl, .string (bstr tx)] HK.out.2.2.1 (fun i hi => by
    have hi' : i < 5 := hi
    have : i = 0 ∨ i = 1 ∨ i = 2 ∨ i = 3 ∨ i = 4 := by omega
    rcases this with rfl | rfl | rfl | rfl | rfl <;> rfl)
  (try simp only [Exit.inBlock, Exit.then])
  refine bodyPost_ret (results_cell_row rfl _ _ ga 57 #[.int .i64 (a : Int), .int .i64 (b : Int), .string (bstr nm), .bool fl, .string (bstr tx)] (0, 0) _ rfl hg Try.underlying57 rfl (by kernel_rfl)) rfl ?_
  exact ⟨rfl, HK.out.1, HK.out.2.1⟩
end Go.Proofs.Ytkapfijokmajlaa

/- The landed reader, codec.Reader: the contract of Nodes. Condition: no more than 2^40 bytes. -/
namespace Go.Proofs.Ytkapfijokmajlaa
open Go.RowKit Go.Deep

theorem rdNode_length (s : Rd) : (rdNode s).1.1.length ≤ s.1.length :=
  Nat.le_trans (rdText_length 8000 _) (Nat.le_trans (rdFlag_length _) (Nat.le_trans (rdText_length 100 _) (Nat.le_trans (rdNum_length _) (rdNum_length s))))

set_option maxHeartbeats 4000000 in
set_option maxRecDepth 100000 in
theorem rdrListNodes_any (W : World) (g : Nat) (s : Rd) (hl : s.1.length ≤ 1099511627776) (w : World) (h : RdrAt W g s w) :
    Calls Try.prog 65 #[.pointer (some ⟨g, 0, none⟩), .int .i64 100, .func (.func 66) #[.pointer (some ⟨g, 0, none⟩)] #[]] w fun e w' => (∃ A c, e = .returned (.slice A (rdNodes s).2.length c) ∧ w'.ownsRow w.heap.size 57 5 (.slice A (rdNodes s).2.length c) (rdNodes s).2.length ((rdNodes s).2.flatMap nodeCells)) ∧ RdrAt W g (rdNodes s).1 w' ∧ Only g w w' := by
  obtain ⟨i0, hi0, hz0, hz1, hz2⟩ := info_parts node_info
  have HI := Lib.hid (And.intro hi0 (And.intro hz0 (And.intro hz1 hz2)))
  clear hi0 hz0 hz1 hz2
  have GN := Lib.hid (rdrNum_any W g s w h)
  have HGL := Lib.hid h.lt
  clear h
  have HSL := Lib.hid (Nat.le_trans (rdNum_length s) hl)
  clear hl
  have HOK := Lib.hid (rdNum_ok s)
  have HLE := Lib.hid (rdNum_le s)
  have HCT : Hid (rdCount 100 s = if (rdNum s).1.2 = 0 ∧ (rdNum s).2 > 100 then (((rdNum s).1.1, 3), 0) else rdNum s) := rfl
  have HE : Hid (rdNodes s = ((rdMany rdNode (rdCount 100 s).2 (rdCount 100 s).1).1, if (rdMany rdNode (rdCount 100 s).2 (rdCount 100 s).1).1.2 = 0 then (rdMany rdNode (rdCount 100 s).2 (rdCount 100 s).1).2 else [])) := rfl
  obtain ⟨X, HX⟩ : ∃ X, Hid (rdNum s = X) := ⟨_, rfl⟩
  rw [HX.out] at GN HSL HOK HCT HLE
  obtain ⟨s0, n⟩ := X
  simp only at GN HSL HOK HCT HLE
  have hle := HLE.out
  by_cases hn : 100 < n
  · have h0 := HOK.out (by omega)
    have e : Hid (rdNodes s = ((s0.1, 3), [])) := by
      show rdNodes s = _
      rw [HE.out, HCT.out, if_pos ⟨h0, hn⟩]
      rfl
    rw [e.out]
    have H0 := Lib.hid h0; clear h0
    go_enter Try.func65, Try.ntmps65
    go_wp2
    refine wp_scope_fwd ?_
    go_wp2_with fail
    refine GN.out.mono ?_
    rintro e w1 ⟨rfl, hin, hon⟩
    have GS := Lib.hid (rdStop_ok W g s0 3 H0.out (by decide) s0.1 w1 hin)
    have HON := Lib.hid hon; clear hon hin
    go_wp2_with fail
    refine GS.out.mono ?_
    rintro e w2 ⟨rfl, h2, o2⟩
    have H2 := Lib.hid h2; have O2 := Lib.hid o2; clear h2 o2
    go_wp2_with fail
    go_step3
    refine ⟨_, rfl, ?_⟩
    go_wp2
    rw [Exit.noGoto_ret]
    go_ret
    exact ⟨⟨none, 0, rfl, World.ownsRow_nil _ _ _ _⟩, H2.out, HON.out.trans O2.out⟩
  · have hct : rdCount 100 s = (s0, n) := by rw [HCT.out, if_neg (by omega)]
    rw [hct] at HE
    simp only at HE
    clear hct
    have HEND : Hid (∀ (s1 : Rd) (l : List NodeV) (k : Nat), (k = n ∨ s1.2 ≠ 0) → k ≤ n → rdMany rdNode n s0 = ((rdMany rdNode (n - k) s1).1, l ++ (rdMany rdNode (n - k) s1).2) → rdNodes s = (s1, if s1.2 = 0 then l else [])) := by
      intro s1 l k hk hkn hm
      have h1 : rdMany rdNode (n - k) s1 = (s1, []) := by
        rcases hk with rfl | hk
        · rw [Nat.sub_self]; rfl
        · cases hnk : n - k with
          | zero => rfl
          | succ m => rw [rdMany, if_neg hk]
      rw [h1, List.append_nil] at hm
      rw [HE.out, hm]
    have HSTEP : Hid (∀ (s1 : Rd) (l : List NodeV) (k : Nat), s1.2 = 0 → k < n → rdMany rdNode n s0 = ((rdMany rdNode (n - k) s1).1, l ++ (rdMany rdNode (n - k) s1).2) →
        rdMany rdNode n s0 = ((rdMany rdNode (n - (k + 1)) (rdNode s1).1).1, (l ++ [(rdNode s1).2]) ++ (rdMany rdNode (n - (k + 1)) (rdNode s1).1).2)) := by
      intro s1 l k h0 hk hm
      rw [hm, show n - k = (n - (k + 1)) + 1 by omega, rdMany, if_pos h0]
      simp
    have HN0 : Hid (s0.2 = 0 ∨ n = 0) := by
      by_cases h0 : n = 0
      · exact .inr h0
      · exact .inl (HOK.out (by omega))
    go_enter Try.func65, Try.ntmps65
    go_wp2
    refine wp_scope_fwd ?_
    go_wp2_with fail
    refine GN.out.mono ?_
    rintro e w1 ⟨rfl, hin, hon⟩
    have HIN := Lib.hid hin; have HON := Lib.hid hon; clear hin hon
    go_wp2_with fail
    go_loopw [7, 17] (fun v i wr => ∃ k : Nat, k ≤ n ∧ i = .int .i64 k ∧ ManyR rdNode nodeCells 57 5 W w g n s0 k v wr) (fun _ i _ => n - (intOf i).toNat)
    case atStart => exact ⟨0, Nat.zero_le _, rfl, s0, [], HIN.out, HON.out, World.ownsRow_nil _ _ _ _, rfl, HSL.out, by simp, HN0.out⟩
    case round =>
      obtain ⟨k, hk, rfl, s1, l, hin, hon, hown, hlk, hsl, hm, hz⟩ := hrel
      have HIN1 := Lib.hid hin; clear hin
      have HON1 := Lib.hid hon; clear hon
      have HOWN := Lib.hid hown; clear hown
      have HM := Lib.hid hm; clear hm
      have HSL1 := Lib.hid hsl; clear hsl
      have HLK := Lib.hid hlk; clear hlk
      have HZ := Lib.hid hz; clear hz
      obtain ⟨A4, c4, rfl⟩ := own_slice HOWN.out
      by_cases hlt : k < n
      · have hz1 : s1.2 = 0 := by rcases HZ.out with h | h; exact h; omega
        have hst := HSTEP.out s1 (l) k hz1 hlt HM.out
        have HST := Lib.hid hst; clear hst
        have GR := Lib.hid (rdrNode_any W g s1 HSL1.out wr HIN1.out)
        have HRL : Hid ((rdNode s1).1.1.length ≤ 1099511627776) := Nat.le_trans (rdNode_length s1) HSL1.out
        obtain ⟨Y, HY⟩ : ∃ Y, Hid (rdNode s1 = Y) := ⟨_, rfl⟩
        rw [HY.out] at HST GR HRL
        obtain ⟨s2, y⟩ := Y
        simp only at HST GR HRL
        clear hz1
        go_wp2_with fail
        refine GR.out.mono ?_
        rintro e w4 ⟨rfl, hin4, hon4⟩
        have HIN4 := Lib.hid hin4; have HON4 := Lib.hid hon4; clear hin4 hon4
        obtain ⟨y1, y2, y3, y4, y5⟩ := y
        have HO4 := Lib.hid (own_only HOWN.out HON4.out HGL.out)
        have HU4 := Lib.hid (HON1.out.trans HON4.out)
        have HU5 := Lib.hid (HU4.out.trans (Only.of_below ((Below.refl _ _).alloc (Nat.le_refl _) (.cells #[.int .i64 y1, .int .i64 y2, .string (bstr y3), .bool y4, .string (bstr y5)] 57))))
        have HIN5 := Lib.hid (HIN4.out.below ((Below.refl _ _).alloc (Nat.le_refl _) (.cells #[.int .i64 y1, .int .i64 y2, .string (bstr y3), .bool y4, .string (bstr y5)] 57)))
        go_wp2_with (at_builtin
                     refine wpList_append_own_wide _ rfl (.tmp 19) (.tmp 22) 47 rfl w.heap.size 57 i0 (.agg #[.int .i64 0, .int .i64 0, .string { data := #[] }, .bool false, .string { data := #[] }]) 5 56 Try.underlying47 HI.out.1 HI.out.2.1 HI.out.2.2.1 HI.out.2.2.2 rfl (by omega) (.slice A4 l.length c4) l.length (l.flatMap nodeCells) rfl (HO4.out.alloc _) ⟨w4.heap.size, 0, none⟩ 1 1 [.int .i64 y1, .int .i64 y2, .string (bstr y3), .bool y4, .string (bstr y5)] rfl rfl ?_ ?_ (by have := HLK.out; simp only [maxLen]; omega) (by have := HLK.out; omega) (by have := HU4.out.size; simp; omega) ?_
                     · intro j u hj
                       rw [Go.WideShapes.add_plain, Nat.zero_add, cell_of_row _ _ _ _ _ _ (heap_alloc_new w4 _)]
                       simpa using hj
                     · intro u hu; simp at hu; rcases hu with rfl | rfl | rfl | rfl | rfl <;> rfl
                     intro v6 w6 hown6 hgr6 _
                     have HOWN6 := Lib.hid hown6
                     have HU6 := Lib.hid (HU5.out.grown hgr6 (fun k hk => (HO4.out.lt k hk).1))
                     have HIN6 := Lib.hid (HIN5.out.grown hgr6 (fun k hk => Nat.lt_of_lt_of_le HGL.out (HO4.out.lt k hk).1))
                     clear hown6 hgr6)
        have GE := Lib.hid (rdErr_any W g s2 w6 HIN6.out)
        refine GE.out.mono ?_
        rintro e w' ⟨rfl, rfl⟩
        by_cases hE : s2.2 = 0
        · have hE' : ((s2.2 : Int) != 0) = false := by rw [hE]; rfl
          go_wp2
          go_roundw
          case rel =>
            refine ⟨k + 1, by omega, by go_num, s2, (l ++ [⟨y1, y2, y3, y4, y5⟩]), HIN6.out, HU6.out, ?_, by rw [List.length_append, HLK.out]; rfl, HRL.out, ?_, .inl hE⟩
            · rw [List.length_append, List.flatMap_append]
              simpa [nodeCells] using HOWN6.out
            · exact HST.out
          case measure => simp [intOf]; omega
        · have hE' : ((s2.2 : Int) != 0) = true := by simp; omega
          have e : Hid (rdNodes s = (s2, [])) := by
            have := HEND.out s2 _ (k + 1) (.inr hE) (by omega) HST.out
            rw [if_neg hE] at this
            exact this
          clear hE
          go_wp2_with fail
          go_step3
          refine ⟨_, rfl, ?_⟩
          go_wp2
          rw [Exit.noGoto_ret]
          go_ret
          rw [e.out]
          exact ⟨⟨none, 0, rfl, World.ownsRow_nil _ _ _ _⟩, HIN6.out, HU6.out⟩
      · have hkn : k = n := by omega
        have e := HEND.out s1 (l) k (.inl hkn) hk HM.out
        have e2 : rdNodes s = (s1, l) := by
          rw [e]
          by_cases h0 : s1.2 = 0
          · rw [if_pos h0]
          · have hn0 : n = 0 := by rcases HZ.out with h | h; exact absurd h h0; exact h
            have : l = [] := List.eq_nil_of_length_eq_zero (by rw [HLK.out]; omega)
            rw [if_neg h0, this]
        have E2 := Lib.hid e2; clear e e2 hkn
        go_wp2
        rw [fwd_ret]
        go_ret
        rw [E2.out]
        exact ⟨⟨A4, c4, rfl, HOWN.out⟩, HIN1.out, HON1.out⟩

set_option maxRecDepth 100000 in
theorem rdrNodes_any (W : World) (g : Nat) (s : Rd) (hl : s.1.length ≤ 1099511627776) (w : World) (h : RdrAt W g s w) :
    Calls Try.prog 28 #[.pointer (some ⟨g, 0, none⟩)] w fun e w' => (∃ A c, e = .returned (.slice A (rdNodes s).2.length c) ∧ w'.ownsRow w.heap.size 57 5 (.slice A (rdNodes s).2.length c) (rdNodes s).2.length ((rdNodes s).2.flatMap nodeCells)) ∧ RdrAt W g (rdNodes s).1 w' ∧ Only g w w' := by
  have GL := Lib.hid (rdrListNodes_any W g s hl w h)
  clear h
  go_enter Try.func28, Try.ntmps28
  go_wp2_with fail
  refine GL.out.mono ?_
  rintro e w1 ⟨⟨A, c, rfl, h2⟩, hin, hon⟩
  have HIN := Lib.hid hin; have HON := Lib.hid hon; have H2 := Lib.hid h2; clear hin hon h2
  go_wp2
  go_ret
  exact ⟨⟨A, c, rfl, H2.out⟩, HIN.out, HON.out⟩
end Go.Proofs.Ytkapfijokmajlaa

/- The landed reader, codec.Reader: the contract of its rdrAct. Condition: no more than 2^40 bytes. -/
namespace Go.Proofs.Ytkapfijokmajlaa
open Go.RowKit Go.Deep

set_option maxHeartbeats 2000000 in
set_option maxRecDepth 100000 in
theorem rdrAct_any (W : World) (g : Nat) (s : Rd) (hl : s.1.length ≤ 1099511627776) (w : World) (h : RdrAt W g s w) :
    Calls Try.prog 64 #[.pointer (some ⟨g, 0, none⟩)] w fun e w' => (∃ A c, e = .returned (.agg #[.int .i64 (rdAct s).2.kind, .int .i64 (rdAct s).2.id, .int .i64 (rdAct s).2.parent, .string (bstr (rdAct s).2.name), .bool (rdAct s).2.dir, .slice A (rdAct s).2.ops.length c]) ∧ w'.ownsRow w.heap.size 94 3 (.slice A (rdAct s).2.ops.length c) (rdAct s).2.ops.length ((rdAct s).2.ops.flatMap compCells)) ∧ RdrAt W g (rdAct s).1 w' ∧ Only g w w' := by
  have HRC : Hid (rdAct s = ((rdComps (rdFlag (rdText 100 (rdNum (rdNum (rdNum s).1).1).1).1).1).1,
    ⟨((rdNum s).2 : Int), ((rdNum (rdNum s).1).2 : Int), ((rdNum (rdNum (rdNum s).1).1).2 : Int), (rdText 100 (rdNum (rdNum (rdNum s).1).1).1).2, (rdFlag (rdText 100 (rdNum (rdNum (rdNum s).1).1).1).1).2, none, 0, (rdComps (rdFlag (rdText 100 (rdNum (rdNum (rdNum s).1).1).1).1).1).2⟩)) := rfl
  have H := Lib.hid h; clear h
  have HB0 := Lib.hid hl; clear hl
  have G1 := Lib.hid (fun w h => rdrNum_any W g s w h)
  have HB1 := Lib.hid (Nat.le_trans (rdNum_length s) HB0.out)
  obtain ⟨X1, HX1⟩ : ∃ X, Hid (rdNum s = X) := ⟨_, rfl⟩
  rw [HX1.out] at G1 HB1 HRC
  obtain ⟨s1, n1⟩ := X1
  simp only at G1 HB1 HRC
  have G2 := Lib.hid (fun w h => rdrNum_any W g s1 w h)
  have HB2 := Lib.hid (Nat.le_trans (rdNum_length s1) HB1.out)
  obtain ⟨X2, HX2⟩ : ∃ X, Hid (rdNum s1 = X) := ⟨_, rfl⟩
  rw [HX2.out] at G2 HB2 HRC
  obtain ⟨s2, n2⟩ := X2
  simp only at G2 HB2 HRC
  have G3 := Lib.hid (fun w h => rdrNum_any W g s2 w h)
  have HB3 := Lib.hid (Nat.le_trans (rdNum_length s2) HB2.out)
  obtain ⟨X3, HX3⟩ : ∃ X, Hid (rdNum s2 = X) := ⟨_, rfl⟩
  rw [HX3.out] at G3 HB3 HRC
  obtain ⟨s3, n3⟩ := X3
  simp only at G3 HB3 HRC
  have G4 := Lib.hid (fun w h => rdrText_any W g s3 100 HB3.out w h)
  have HB4 := Lib.hid (Nat.le_trans (rdText_length 100 s3) HB3.out)
  obtain ⟨X4, HX4⟩ : ∃ X, Hid (rdText 100 s3 = X) := ⟨_, rfl⟩
  rw [HX4.out] at G4 HB4 HRC
  obtain ⟨s4, t4⟩ := X4
  simp only at G4 HB4 HRC
  have G5 := Lib.hid (fun w h => rdrFlag_any W g s4 w h)
  have HB5 := Lib.hid (Nat.le_trans (rdFlag_length s4) HB4.out)
  obtain ⟨X5, HX5⟩ : ∃ X, Hid (rdFlag s4 = X) := ⟨_, rfl⟩
  rw [HX5.out] at G5 HB5 HRC
  obtain ⟨s5, b5⟩ := X5
  simp only at G5 HB5 HRC
  have G6 := Lib.hid (fun w h => rdrComps_any W g s5 HB5.out w h)
  have HB6 := Lib.hid (Nat.le_trans (rdComps_length s5) HB5.out)
  obtain ⟨X6, HX6⟩ : ∃ X, Hid (rdComps s5 = X) := ⟨_, rfl⟩
  rw [HX6.out] at G6 HB6 HRC
  obtain ⟨s6, o6⟩ := X6
  simp only at G6 HB6 HRC
  rw [HRC.out]
  go_enter Try.func64, Try.ntmps64
  go_wp2_with fail
  have HR0 := Lib.hid (RecR.start H.out #[.int .i64 0, .int .i64 0, .int .i64 0, .string { data := #[] }, .bool false, .slice none 0 0] 55)
  obtain ⟨w0, HW0⟩ : ∃ w0, Hid (w.alloc (.cells #[.int .i64 0, .int .i64 0, .int .i64 0, .string { data := #[] }, .bool false, .slice none 0 0] 55) = w0) := ⟨_, rfl⟩
  obtain ⟨ga, HGA⟩ : ∃ ga, Hid (w.heap.size = ga) := ⟨_, rfl⟩
  have HGE : Hid (w.heap.size ≤ ga) := by show w.heap.size ≤ ga; rw [HGA.out]; exact Nat.le_refl _
  rw [HW0.out, HGA.out] at HR0
  rw [HW0.out, HGA.out]
  refine (G1.out _ HR0.out.1).mono ?_
  rintro e w1 ⟨rfl, hin, hon⟩
  have HR1 := Lib.hid (HR0.out.call hin hon); clear hin hon
  go_wp2_with fail
  refine (G2.out _ HR1.out.1).mono ?_
  rintro e w2 ⟨rfl, hin, hon⟩
  have HR2 := Lib.hid (HR1.out.call hin hon); clear hin hon
  go_wp2_with fail
  refine (G3.out _ HR2.out.1).mono ?_
  rintro e w3 ⟨rfl, hin, hon⟩
  have HR3 := Lib.hid (HR2.out.call hin hon); clear hin hon
  go_wp2_with fail
  refine (G4.out _ HR3.out.1).mono ?_
  rintro e w4 ⟨rfl, hin, hon⟩
  have HR4 := Lib.hid (HR3.out.call hin hon); clear hin hon
  go_wp2_with fail
  refine (G5.out _ HR4.out.1).mono ?_
  rintro e w5 ⟨rfl, hin, hon⟩
  have HR5 := Lib.hid (HR4.out.call hin hon); clear hin hon
  go_wp2_with fail
  refine (G6.out _ HR5.out.1).mono ?_
  rintro e w6 ⟨⟨A6, c6, rfl, how6⟩, hin, hon⟩
  have HO6 := Lib.hid (own_base (base' := ga + 1) how6 HR5.out.2.2.1.lt); clear how6
  have HR6 := Lib.hid (HR5.out.call hin hon); clear hin hon
  have k0 := HR6.out
  have k1 := k0.store 0 (.int .i64 (n1 : Int))
  have x0 := k0.2.2.1.cell (i := 0) (by show 0 < 6; omega)
  have f0 := k0.2.2.1.frozen 0
  have k2 := k1.store 1 (.int .i64 (n2 : Int))
  have x1 := k1.2.2.1.cell (i := 1) (by show 1 < 6; omega)
  have f1 := k1.2.2.1.frozen 1
  have k3 := k2.store 2 (.int .i64 (n3 : Int))
  have x2 := k2.2.2.1.cell (i := 2) (by show 2 < 6; omega)
  have f2 := k2.2.2.1.frozen 2
  have k4 := k3.store 3 (.string (bstr t4))
  have x3 := k3.2.2.1.cell (i := 3) (by show 3 < 6; omega)
  have f3 := k3.2.2.1.frozen 3
  have k5 := k4.store 4 (.bool b5)
  have x4 := k4.2.2.1.cell (i := 4) (by show 4 < 6; omega)
  have f4 := k4.2.2.1.frozen 4
  have k6 := k5.store 5 (.slice A6 o6.length c6)
  have x5 := k5.2.2.1.cell (i := 5) (by show 5 < 6; omega)
  have f5 := k5.2.2.1.frozen 5
  replace x0 : World.cell? _ ⟨ga, 0, none⟩ = some (.int .i64 0) := x0
  replace x1 : World.cell? _ ⟨ga, 1, none⟩ = some (.int .i64 0) := x1
  replace x2 : World.cell? _ ⟨ga, 2, none⟩ = some (.int .i64 0) := x2
  replace x3 : World.cell? _ ⟨ga, 3, none⟩ = some (.string { data := #[] }) := x3
  replace x4 : World.cell? _ ⟨ga, 4, none⟩ = some (.bool false) := x4
  replace x5 : World.cell? _ ⟨ga, 5, none⟩ = some (.slice none 0 0) := x5
  have HK := Lib.hid k6
  clear k0 k1 k2 k3 k4 k5 k6
  go_wp2_with fail
  have hg := rowIs_cells #[.int .i64 (n1 : Int), .int .i64 (n2 : Int), .int .i64 (n3 : Int), .string (bstr t4), .bool b5, .slice A6 o6.length c6] HK.out.2.2.1 (fun i hi => by
    have hi' : i < 6 := hi
    have : i = 0 ∨ i = 1 ∨ i = 2 ∨ i = 3 ∨ i = 4 ∨ i = 5 := by omega
    rcases this with rfl | rfl | rfl | rfl | rfl | rfl <;> rfl)
  (try simp only [Exit.inBlock, Exit.then])
  refine bodyPost_ret (results_cell_row rfl _ _ ga 55 #[.int .i64 (n1 : Int), .int .i64 (n2 : Int), .int .i64 (n3 : Int), .string (bstr t4), .bool b5, .slice A6 o6.length c6] (0, 0) _ rfl hg Try.underlying55 rfl (by kernel_rfl)) rfl ?_
  exact ⟨⟨A6, c6, rfl, own_base (ownsRow_setCell_below (ownsRow_setCell_below (ownsRow_setCell_below (ownsRow_setCell_below (ownsRow_setCell_below (ownsRow_setCell_below HO6.out (a := ⟨ga, 0, none⟩) (by show ga < ga + 1; omega) (.int .i64 (n1 : Int))) (a := ⟨ga, 1, none⟩) (by show ga < ga + 1; omega) (.int .i64 (n2 : Int))) (a := ⟨ga, 2, none⟩) (by show ga < ga + 1; omega) (.int .i64 (n3 : Int))) (a := ⟨ga, 3, none⟩) (by show ga < ga + 1; omega) (.string (bstr t4))) (a := ⟨ga, 4, none⟩) (by show ga < ga + 1; omega) (.bool b5)) (a := ⟨ga, 5, none⟩) (by show ga < ga + 1; omega) (.slice A6 o6.length c6)) (Nat.le_succ_of_le HGE.out)⟩, HK.out.1, HK.out.2.1⟩
end Go.Proofs.Ytkapfijokmajlaa

/- The landed reader, codec.Reader: the contract of Acts. Condition: no more than 2^40 bytes. -/
namespace Go.Proofs.Ytkapfijokmajlaa
open Go.RowKit Go.Deep

theorem rdAct_length (s : Rd) : (rdAct s).1.1.length ≤ s.1.length := by
  have e : (rdAct s).1 = (rdComps (rdFlag (rdText 100 (rdNum (rdNum (rdNum s).1).1).1).1).1).1 := by simp only [rdAct]
  rw [e]
  have h1 := rdNum_length s
  generalize (rdNum s).1 = s1 at h1 ⊢
  have h2 := rdNum_length s1
  generalize (rdNum s1).1 = s2 at h2 ⊢
  have h3 := rdNum_length s2
  generalize (rdNum s2).1 = s3 at h3 ⊢
  have h4 := rdText_length 100 s3
  generalize (rdText 100 s3).1 = s4 at h4 ⊢
  have h5 := rdFlag_length s4
  generalize (rdFlag s4).1 = s5 at h5 ⊢
  have h6 := rdComps_length s5
  exact Nat.le_trans h6 (Nat.le_trans h5 (Nat.le_trans h4 (Nat.le_trans h3 (Nat.le_trans h2 h1))))

/-- What the loop holds behind k rounds. -/
def ActsR (W w : World) (g n : Nat) (s0 : Rd) (k : Nat) (v : Value) (wr : World) : Prop :=
  ∃ s l, RdrAt W g s wr ∧ Only g w wr ∧ wr.ownsRow w.heap.size 55 6 v l.length (l.flatMap actCells) ∧ l.length = k ∧ s.1.length ≤ 1099511627776 ∧ rdMany rdAct n s0 = ((rdMany rdAct (n - k) s).1, l.map strip ++ (rdMany rdAct (n - k) s).2) ∧ (s.2 = 0 ∨ n = 0) ∧ Owns g l wr

set_option maxHeartbeats 4000000 in
set_option maxRecDepth 100000 in
theorem rdrListActs_any (W : World) (g : Nat) (s : Rd) (hl : s.1.length ≤ 1099511627776) (w : World) (h : RdrAt W g s w) :
    Calls Try.prog 63 #[.pointer (some ⟨g, 0, none⟩), .int .i64 20, .func (.func 64) #[.pointer (some ⟨g, 0, none⟩)] #[]] w fun e w' => ActsOut w g (rdActs s).2 e w' ∧ RdrAt W g (rdActs s).1 w' ∧ Only g w w' := by
  obtain ⟨i0, hi0, hz0, hz1, hz2⟩ := info_parts act_info
  have HI := Lib.hid (And.intro hi0 (And.intro hz0 (And.intro hz1 hz2)))
  clear hi0 hz0 hz1 hz2
  have GN := Lib.hid (rdrNum_any W g s w h)
  have HGL := Lib.hid h.lt
  clear h
  have HSL := Lib.hid (Nat.le_trans (rdNum_length s) hl)
  clear hl
  have HOK := Lib.hid (rdNum_ok s)
  have HLE := Lib.hid (rdNum_le s)
  have HCT : Hid (rdCount 20 s = if (rdNum s).1.2 = 0 ∧ (rdNum s).2 > 20 then (((rdNum s).1.1, 3), 0) else rdNum s) := rfl
  have HE : Hid (rdActs s = ((rdMany rdAct (rdCount 20 s).2 (rdCount 20 s).1).1, if (rdMany rdAct (rdCount 20 s).2 (rdCount 20 s).1).1.2 = 0 then (rdMany rdAct (rdCount 20 s).2 (rdCount 20 s).1).2 else [])) := rfl
  obtain ⟨X, HX⟩ : ∃ X, Hid (rdNum s = X) := ⟨_, rfl⟩
  rw [HX.out] at GN HSL HOK HCT HLE
  obtain ⟨s0, n⟩ := X
  simp only at GN HSL HOK HCT HLE
  have hle := HLE.out
  by_cases hn : 20 < n
  · have h0 := HOK.out (by omega)
    have e : Hid (rdActs s = ((s0.1, 3), [])) := by
      show rdActs s = _
      rw [HE.out, HCT.out, if_pos ⟨h0, hn⟩]
      rfl
    rw [e.out]
    have H0 := Lib.hid h0; clear h0
    go_enter Try.func63, Try.ntmps63
    go_wp2
    refine wp_scope_fwd ?_
    go_wp2_with fail
    refine GN.out.mono ?_
    rintro e w1 ⟨rfl, hin, hon⟩
    have GS := Lib.hid (rdStop_ok W g s0 3 H0.out (by decide) s0.1 w1 hin)
    have HON := Lib.hid hon; clear hon hin
    go_wp2_with fail
    refine GS.out.mono ?_
    rintro e w2 ⟨rfl, h2, o2⟩
    have H2 := Lib.hid h2; have O2 := Lib.hid o2; clear h2 o2
    go_wp2_with fail
    go_step3
    refine ⟨_, rfl, ?_⟩
    go_wp2
    rw [Exit.noGoto_ret]
    go_ret
    exact ⟨⟨[], none, 0, rfl, rfl, World.ownsRow_nil _ _ _ _, fun y hy => by cases hy⟩, H2.out, HON.out.trans O2.out⟩
  · have hct : rdCount 20 s = (s0, n) := by rw [HCT.out, if_neg (by omega)]
    rw [hct] at HE
    simp only at HE
    clear hct
    have HEND : Hid (∀ (s1 : Rd) (l : List ActV) (k : Nat), (k = n ∨ s1.2 ≠ 0) → k ≤ n → rdMany rdAct n s0 = ((rdMany rdAct (n - k) s1).1, l ++ (rdMany rdAct (n - k) s1).2) → rdActs s = (s1, if s1.2 = 0 then l else [])) := by
      intro s1 l k hk hkn hm
      have h1 : rdMany rdAct (n - k) s1 = (s1, []) := by
        rcases hk with rfl | hk
        · rw [Nat.sub_self]; rfl
        · cases hnk : n - k with
          | zero => rfl
          | succ m => rw [rdMany, if_neg hk]
      rw [h1, List.append_nil] at hm
      rw [HE.out, hm]
    have HSTEP : Hid (∀ (s1 : Rd) (l : List ActV) (k : Nat), s1.2 = 0 → k < n → rdMany rdAct n s0 = ((rdMany rdAct (n - k) s1).1, l ++ (rdMany rdAct (n - k) s1).2) →
        rdMany rdAct n s0 = ((rdMany rdAct (n - (k + 1)) (rdAct s1).1).1, (l ++ [(rdAct s1).2]) ++ (rdMany rdAct (n - (k + 1)) (rdAct s1).1).2)) := by
      intro s1 l k h0 hk hm
      rw [hm, show n - k = (n - (k + 1)) + 1 by omega, rdMany, if_pos h0]
      simp
    have HN0 : Hid (s0.2 = 0 ∨ n = 0) := by
      by_cases h0 : n = 0
      · exact .inr h0
      · exact .inl (HOK.out (by omega))
    go_enter Try.func63, Try.ntmps63
    go_wp2
    refine wp_scope_fwd ?_
    go_wp2_with fail
    refine GN.out.mono ?_
    rintro e w1 ⟨rfl, hin, hon⟩
    have HIN := Lib.hid hin; have HON := Lib.hid hon; clear hin hon
    go_wp2_with fail
    go_loopw [7, 17] (fun v i wr => ∃ k : Nat, k ≤ n ∧ i = .int .i64 k ∧ ActsR W w g n s0 k v wr) (fun _ i _ => n - (intOf i).toNat)
    case atStart => exact ⟨0, Nat.zero_le _, rfl, s0, [], HIN.out, HON.out, World.ownsRow_nil _ _ _ _, rfl, HSL.out, by simp, HN0.out, fun y hy => by cases hy⟩
    case round =>
      obtain ⟨k, hk, rfl, s1, l, hin, hon, hown, hlk, hsl, hm, hz⟩ := hrel
      have HIN1 := Lib.hid hin; clear hin
      have HON1 := Lib.hid hon; clear hon
      have HOWN := Lib.hid hown; clear hown
      have HM := Lib.hid hm; clear hm
      have HSL1 := Lib.hid hsl; clear hsl
      have HLK := Lib.hid hlk; clear hlk
      have HZ := Lib.hid hz; clear hz
      obtain ⟨A4, c4, rfl⟩ := own_slice HOWN.out
      by_cases hlt : k < n
      · have hz1 : s1.2 = 0 := by rcases HZ.out.1 with h | h; exact h; omega
        have hst := HSTEP.out s1 (l.map strip) k hz1 hlt HM.out
        have HST := Lib.hid hst; clear hst
        have GR := Lib.hid (rdrAct_any W g s1 HSL1.out wr HIN1.out)
        have HRL : Hid ((rdAct s1).1.1.length ≤ 1099511627776) := Nat.le_trans (rdAct_length s1) HSL1.out
        have HYS : Hid ((rdAct s1).2.opsA = none ∧ (rdAct s1).2.opsC = 0) := ⟨rfl, rfl⟩
        obtain ⟨Y, HY⟩ : ∃ Y, Hid (rdAct s1 = Y) := ⟨_, rfl⟩
        rw [HY.out] at HST GR HRL HYS
        obtain ⟨s2, y⟩ := Y
        simp only at HST GR HRL HYS
        clear hz1
        go_wp2_with fail
        refine GR.out.mono ?_
        rintro e w4 ⟨⟨A6, c6, rfl, how6⟩, hin4, hon4⟩
        have HIN4 := Lib.hid hin4; have HON4 := Lib.hid hon4; clear hin4 hon4
        obtain ⟨y1, y2, y3, y4, y5, yA, yC, y6⟩ := y
        simp only at how6
        have hys := HYS.out
        simp only at hys
        obtain ⟨rfl, rfl⟩ := hys
        have HO6 := Lib.hid (own_base (base' := g + 1) how6 (Nat.lt_of_lt_of_le HGL.out HON1.out.size)); clear how6
        have HO4 := Lib.hid (own_only HOWN.out HON4.out HGL.out)
        have HU4 := Lib.hid (HON1.out.trans HON4.out)
        have HU5 := Lib.hid (HU4.out.trans (Only.of_below ((Below.refl _ _).alloc (Nat.le_refl _) (.cells #[.int .i64 y1, .int .i64 y2, .int .i64 y3, .string (bstr y4), .bool y5, .slice A6 y6.length c6] 55))))
        have HIN5 := Lib.hid (HIN4.out.below ((Below.refl _ _).alloc (Nat.le_refl _) (.cells #[.int .i64 y1, .int .i64 y2, .int .i64 y3, .string (bstr y4), .bool y5, .slice A6 y6.length c6] 55)))
        have HOWS5 : Hid (Owns g (l ++ [⟨y1, y2, y3, y4, y5, A6, c6, y6⟩]) (w4.alloc (.cells #[.int .i64 y1, .int .i64 y2, .int .i64 y3, .string (bstr y4), .bool y5, .slice A6 y6.length c6] 55))) := by
          intro y hy
          rcases List.mem_append.1 hy with hy | hy
          · exact (HZ.out.2.only HON4.out y hy).alloc _
          · rw [List.mem_singleton.1 hy]
            exact HO6.out.alloc _
        go_wp2_with (at_builtin
                     refine wpList_append_own_wide _ rfl (.tmp 19) (.tmp 22) 44 rfl w.heap.size 55 i0 (.agg #[.int .i64 0, .int .i64 0, .int .i64 0, .string { data := #[] }, .bool false, .slice none 0 0]) 6 72 Try.underlying44 HI.out.1 HI.out.2.1 HI.out.2.2.1 HI.out.2.2.2 rfl (by omega) (.slice A4 l.length c4) l.length (l.flatMap actCells) rfl (HO4.out.alloc _) ⟨w4.heap.size, 0, none⟩ 1 1 [.int .i64 y1, .int .i64 y2, .int .i64 y3, .string (bstr y4), .bool y5, .slice A6 y6.length c6] rfl rfl ?_ ?_ (by have := HLK.out; simp only [maxLen]; omega) (by have := HLK.out; omega) (by have := HU4.out.size; simp; omega) ?_
                     · intro j u hj
                       rw [Go.WideShapes.add_plain, Nat.zero_add, cell_of_row _ _ _ _ _ _ (heap_alloc_new w4 _)]
                       simpa using hj
                     · intro u hu; simp at hu; rcases hu with rfl | rfl | rfl | rfl | rfl | rfl <;> rfl
                     intro v6 w6 hown6 hgr6 _
                     have HOWN6 := Lib.hid hown6
                     have HU6 := Lib.hid (HU5.out.grown hgr6 (fun k hk => (HO4.out.lt k hk).1))
                     have HIN6 := Lib.hid (HIN5.out.grown hgr6 (fun k hk => Nat.lt_of_lt_of_le HGL.out (HO4.out.lt k hk).1))
                     have HOWS6 : Hid (Owns g (l ++ [⟨y1, y2, y3, y4, y5, A6, c6, y6⟩]) w6) := fun y hy => own_grown (HOWS5.out y hy) (HO4.out.alloc _) (by decide) hgr6
                     clear hown6 hgr6)
        have GE := Lib.hid (rdErr_any W g s2 w6 HIN6.out)
        refine GE.out.mono ?_
        rintro e w' ⟨rfl, rfl⟩
        by_cases hE : s2.2 = 0
        · have hE' : ((s2.2 : Int) != 0) = false := by rw [hE]; rfl
          go_wp2
          go_roundw
          case rel =>
            refine ⟨k + 1, by omega, by go_num, s2, (l ++ [⟨y1, y2, y3, y4, y5, A6, c6, y6⟩]), HIN6.out, HU6.out, ?_, by rw [List.length_append, HLK.out]; rfl, HRL.out, ?_, .inl hE, HOWS6.out⟩
            · rw [List.length_append, List.flatMap_append]
              simpa [actCells] using HOWN6.out
            · rw [List.map_append]; exact HST.out
          case measure => simp [intOf]; omega
        · have hE' : ((s2.2 : Int) != 0) = true := by simp; omega
          have e : Hid (rdActs s = (s2, [])) := by
            have := HEND.out s2 _ (k + 1) (.inr hE) (by omega) HST.out
            rw [if_neg hE] at this
            exact this
          clear hE
          go_wp2_with fail
          go_step3
          refine ⟨_, rfl, ?_⟩
          go_wp2
          rw [Exit.noGoto_ret]
          go_ret
          rw [e.out]
          exact ⟨⟨[], none, 0, rfl, rfl, World.ownsRow_nil _ _ _ _, fun y hy => by cases hy⟩, HIN6.out, HU6.out⟩
      · have hkn : k = n := by omega
        have e := HEND.out s1 (l.map strip) k (.inl hkn) hk HM.out
        have e2 : rdActs s = (s1, l.map strip) := by
          rw [e]
          by_cases h0 : s1.2 = 0
          · rw [if_pos h0]
          · have hn0 : n = 0 := by rcases HZ.out.1 with h | h; exact absurd h h0; exact h
            have : l = [] := List.eq_nil_of_length_eq_zero (by rw [HLK.out]; omega)
            rw [if_neg h0, this]; rfl
        have E2 := Lib.hid e2; clear e e2 hkn
        go_wp2
        rw [fwd_ret]
        go_ret
        rw [E2.out]
        exact ⟨⟨l, A4, c4, rfl, rfl, HOWN.out, HZ.out.2⟩, HIN1.out, HON1.out⟩

set_option maxRecDepth 100000 in
theorem rdrActs_any (W : World) (g : Nat) (s : Rd) (hl : s.1.length ≤ 1099511627776) (w : World) (h : RdrAt W g s w) :
    Calls Try.prog 25 #[.pointer (some ⟨g, 0, none⟩)] w fun e w' => ActsOut w g (rdActs s).2 e w' ∧ RdrAt W g (rdActs s).1 w' ∧ Only g w w' := by
  have GL := Lib.hid (rdrListActs_any W g s hl w h)
  clear h
  go_enter Try.func25, Try.ntmps25
  go_wp2_with fail
  refine GL.out.mono ?_
  rintro e w1 ⟨⟨l, A, c, h1, rfl, h2, h3⟩, hin, hon⟩
  have HIN := Lib.hid hin; have HON := Lib.hid hon; have H1 := Lib.hid h1; have H2 := Lib.hid h2; have H3 := Lib.hid h3; clear hin hon h1 h2 h3
  go_wp2
  go_ret
  exact ⟨⟨l, A, c, H1.out, rfl, H2.out, H3.out⟩, HIN.out, HON.out⟩
end Go.Proofs.Ytkapfijokmajlaa
