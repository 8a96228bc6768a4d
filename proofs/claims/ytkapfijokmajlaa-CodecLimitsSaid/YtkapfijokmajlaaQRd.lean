/- The contract of the statements' own awake over the landed writer and reader; and what a writer that is none answers. No condition. (Merged of 5 texts.) -/
import Derived.Test.YtkapfijokmajlaaQIn
import Derived.Test.YtkapfijokmajlaaQNum
import Derived.Test.YtkapfijokmajlaaQWr
/- The landed reader, codec.Reader: where it lies; the contracts of NewReader, Err, stop, Num, Flag, Left. No condition beyond bytes and lengths. -/
namespace Go.Proofs.Ytkapfijokmajlaa
open Go.RowKit Go.Deep

theorem numGet_nil (A : Option Addr) (c : Nat) (w : World) : Calls Try.prog 54 #[.slice A 0 c] w fun e w' => e = .returned (.tuple #[.int .i64 0, .int .i64 0, .int .i64 2]) ∧ w = w' := by
  go_enter Try.func54, Try.ntmps54
  go_wp2
  refine wp_scope_fwd ?_
  go_wp2
  refine wp_loop_rounds 1 ?_
  rw [rounds_succ]
  go_wp2
  go_step3
  go_wp2
  rw [fwd_ret]
  go_ret3
  exact ⟨rfl, rfl⟩
theorem numGet_at {A : Option Addr} {l : List Nat} (cap : Nat) (hl : l.length ≤ maxLen) (hb : ∀ c ∈ l, c < 256) (w : World) (h : BytesAt w A l) :
    Calls Try.prog 54 #[.slice A l.length cap] w fun e w' => e = .returned (.tuple #[.int .i64 (ng 0 0 l).1, .int .i64 (ng 0 0 l).2.1, .int .i64 (ng 0 0 l).2.2]) ∧ w = w' := by
  rcases h with rfl | ⟨b, off, rfl, _, hc⟩
  · exact numGet_nil A cap w
  · exact numGet_any b off cap l hl hb w hc
/-- What both readers answer of the same bytes. -/
theorem gets_alike (l : List Nat) (hb : ∀ x ∈ l, x < 256) : ∃ x y e : Nat, ng 0 0 l = (x, y, e) ∧ rg 0 0 l = (x, y) ∧ ((e = 0 ∧ 0 < y) ∨ (e = 2 ∧ x = 0 ∧ y = 0)) := by
  obtain ⟨h1, h2⟩ := ng_rg l hb 0 0 (by omega) (.inl ⟨rfl, rfl⟩)
  refine ⟨_, _, _, rfl, h1, ?_⟩
  rcases h2 with h2 | h2
  · exact .inl h2
  · rw [h2]; exact .inr ⟨rfl, rfl, rfl⟩

/-- What is left of a reader: nothing, behind an error. -/
def lft (s : Rd) : List Nat := if s.2 = 0 then s.1 else []
theorem lft_length (s : Rd) : (lft s).length ≤ s.1.length := by unfold lft; split <;> simp
def rdrCells (A : Option Addr) (n c e : Nat) (j : Nat) : Value := if j = 0 then .slice A n c else .int .i64 (e : Int)
/-- The block g of two cells holds the landed reader: the slice of what is left, of bytes that lie in W, and the error. -/
def RdrAt (W : World) (g : Nat) (s : Rd) (w : World) : Prop :=
  ∃ A c, w.rowIs g 86 2 (rdrCells A (lft s).length c s.2) ∧ BytesAt W A (lft s) ∧ (lft s).length ≤ c ∧ c ≤ maxLen ∧ (∀ x ∈ lft s, x < 256) ∧ W.heap.size ≤ g ∧ Below W.heap.size W w
theorem RdrAt.kept {W : World} {g g' : Nat} {s : Rd} {w w' : World} (h : RdrAt W g s w) (ho : Only g' w w') (hg : g ≠ g') (hW : W.heap.size ≤ g') : RdrAt W g s w' := by
  obtain ⟨A, c, hr, hA, hc, hm, hx, hge, hb⟩ := h
  exact ⟨A, c, hr.of_block (ho.block g hr.lt hg), hA, hc, hm, hx, hge, ho.below hb hW⟩
theorem RdrAt.drew {W : World} {g : Nat} {s : Rd} {w : World} (h : RdrAt W g s w) : RdrAt W g s w.drew := by
  obtain ⟨A, c, hr, hA, hc, hm, hx, hge, hb⟩ := h
  exact ⟨A, c, hr.drew, hA, hc, hm, hx, hge, hb.drew⟩
theorem RdrAt.below {W : World} {g : Nat} {s : Rd} {w w' : World} (h : RdrAt W g s w) (hb : Below w.heap.size w w') : RdrAt W g s w' := by
  have hge : W.heap.size ≤ g := by obtain ⟨_, _, _, _, _, _, _, hge, _⟩ := h; exact hge
  exact h.kept (Only.of_below (g := g + 1) hb) (by omega) (by omega)
theorem RdrAt.grown {W : World} {g : Nat} {s : Rd} {w w' : World} {row : Option Nat} (h : RdrAt W g s w) (hg : w.grownBy w' row) (hr : ∀ k, row = some k → g < k) : RdrAt W g s w' := by
  obtain ⟨A, c, hrow, hA, hc, hm, hx, hge, hb⟩ := h
  exact ⟨A, c, hrow.of_block (hg.block g hrow.lt (fun e => by have := hr g e.symm; omega)), hA, hc, hm, hx, hge, hb.grown hg hb.size (fun k hk => by have := hr k hk; omega)⟩
theorem RdrAt.lt {W : World} {g : Nat} {s : Rd} {w : World} (h : RdrAt W g s w) : g < w.heap.size := by obtain ⟨_, _, hr, _⟩ := h; exact hr.lt
theorem RdrAt.cell1 {W : World} {g : Nat} {s : Rd} {w : World} (h : RdrAt W g s w) : w.cell? ⟨g, 1, none⟩ = some (.int .i64 (s.2 : Int)) := by
  obtain ⟨A, c, hr, _⟩ := h
  exact (hr.cell (i := 1) (by omega)).trans rfl
/-- An error. -/
theorem RdrAt.err {W : World} {g : Nat} {s s' : Rd} {w w' : World} (h : RdrAt W g s w) (hs : s'.2 ≠ 0) (hr : w'.rowIs g 86 2 (rdrCells none 0 0 s'.2)) (ho : Only g w w') : RdrAt W g s' w' := by
  obtain ⟨A, c, _, _, _, _, _, hge, hb⟩ := h
  have e : lft s' = [] := if_neg hs
  refine ⟨none, 0, ?_, ?_, ?_, Nat.zero_le _, ?_, hge, ho.below hb hge⟩
  · rw [e]; exact hr
  · rw [e]; exact .inl rfl
  · rw [e]; exact Nat.le_refl _
  · rw [e]; intro x hx; cases hx

theorem rdErr_nil (w : World) : Calls Try.prog 31 #[.pointer none] w fun e w' => e = .returned (.int .i64 2) ∧ w = w' := by
  go_enter Try.func31, Try.ntmps31
  go_wp2
  go_ret
  exact ⟨rfl, rfl⟩
theorem rdErr_any (W : World) (g : Nat) (s : Rd) (w : World) (h : RdrAt W g s w) : Calls Try.prog 31 #[.pointer (some ⟨g, 0, none⟩)] w fun e w' => e = .returned (.int .i64 (s.2 : Int)) ∧ w = w' := by
  have c1 := h.cell1
  clear h
  go_enter Try.func31, Try.ntmps31
  go_wp2
  go_ret
  exact ⟨rfl, rfl⟩
theorem rdStop_nil (e : Nat) (w : World) : Calls Try.prog 55 #[.pointer none, .int .i64 (e : Int)] w fun e w' => e = .returned (.tuple #[]) ∧ w = w' := by
  have GE := Lib.hid (fun w => rdErr_nil w)
  go_enter Try.func55, Try.ntmps55
  go_wp2_with fail
  refine (GE.out _).mono ?_
  rintro e w' ⟨rfl, rfl⟩
  go_wp2
  go_end0
  exact ⟨rfl, rfl⟩
/-- The first error stays. -/
theorem rdStop_err (W : World) (g : Nat) (s : Rd) (e : Nat) (hs : s.2 ≠ 0) (w : World) (h : RdrAt W g s w) : Calls Try.prog 55 #[.pointer (some ⟨g, 0, none⟩), .int .i64 (e : Int)] w fun e w' => e = .returned (.tuple #[]) ∧ w = w' := by
  have GE := Lib.hid (rdErr_any W g s w h)
  have hs' : ((s.2 : Int) == 0) = false := beq_eq_false_iff_ne.2 (by omega)
  clear h hs
  go_enter Try.func55, Try.ntmps55
  go_wp2_with fail
  refine GE.out.mono ?_
  rintro e w' ⟨rfl, rfl⟩
  go_wp2
  go_end0
  exact ⟨rfl, rfl⟩
theorem rdStop_ok (W : World) (g : Nat) (s : Rd) (e : Nat) (hs : s.2 = 0) (he : e ≠ 0) (L : List Nat) (w : World) (h : RdrAt W g s w) :
    Calls Try.prog 55 #[.pointer (some ⟨g, 0, none⟩), .int .i64 (e : Int)] w fun r w' => r = .returned (.tuple #[]) ∧ RdrAt W g (L, e) w' ∧ Only g w w' := by
  have GE := Lib.hid (rdErr_any W g s w h)
  rw [hs] at GE
  have H := Lib.hid h
  obtain ⟨A, c, hr, _⟩ := h
  have HR := Lib.hid hr
  have c0 := hr.cell (i := 0) (by omega)
  rw [show rdrCells A (lft s).length c s.2 0 = .slice A (lft s).length c from rfl] at c0
  have f0 := hr.frozen 0
  have r1 := hr.set 0 (.slice none 0 0)
  have d1 := r1.cell (i := 1) (by omega)
  rw [show (if (1 : Nat) = 0 then Value.slice none 0 0 else rdrCells A (lft s).length c s.2 1) = .int .i64 (s.2 : Int) from rfl] at d1
  have g1 := r1.frozen 1
  clear hr r1
  go_enter Try.func55, Try.ntmps55
  go_wp2_with fail
  refine GE.out.mono ?_
  rintro e1 w' ⟨rfl, rfl⟩
  go_wp2
  go_end0
  have ho : Only g w ((w.setCell ⟨g, 0, none⟩ (.slice none 0 0)).setCell ⟨g, 1, none⟩ (.int .i64 (e : Int))) := ((Only.refl g w).set 0 _).set 1 _
  refine ⟨rfl, H.out.err (s' := (L, e)) he ((((HR.out.set 0 _).set 1 _)).congr fun i hi => ?_) ho, ho⟩
  have : i = 0 ∨ i = 1 := by omega
  rcases this with rfl | rfl <;> rfl
end Go.Proofs.Ytkapfijokmajlaa

/- The landed reader, codec.Reader: the contracts of Num, Flag, Left, NewReader. No condition beyond bytes and lengths. -/
namespace Go.Proofs.Ytkapfijokmajlaa
open Go.RowKit Go.Deep

set_option maxRecDepth 100000 in
theorem rdrNum_nil (w : World) : Calls Try.prog 15 #[.pointer none] w fun e w' => e = .returned (.int .i64 0) ∧ w = w' := by
  have GE := Lib.hid (fun w => rdErr_nil w)
  have GS := Lib.hid (fun w => rdStop_nil 2 w)
  go_enter Try.func15, Try.ntmps15
  go_wp2
  refine wp_scope_fwd ?_
  go_wp2_with fail
  refine (GE.out _).mono ?_
  rintro e w' ⟨rfl, rfl⟩
  go_wp2_with fail
  go_step3
  refine ⟨_, rfl, ?_⟩
  go_wp2_with fail
  refine (GS.out _).mono ?_
  rintro e w' ⟨rfl, rfl⟩
  go_wp2
  rw [Exit.noGoto_ret]
  go_ret
  exact ⟨rfl, rfl⟩

set_option maxHeartbeats 1000000 in
set_option maxRecDepth 100000 in
theorem rdrNum_any (W : World) (g : Nat) (s : Rd) (w : World) (h : RdrAt W g s w) :
    Calls Try.prog 15 #[.pointer (some ⟨g, 0, none⟩)] w fun e w' => e = .returned (.int .i64 ((rdNum s).2 : Nat)) ∧ RdrAt W g (rdNum s).1 w' ∧ Only g w w' := by
  have H := Lib.hid h
  have GE := Lib.hid (rdErr_any W g s w h)
  obtain ⟨L, E⟩ := s
  by_cases he : E = 0
  · subst he
    obtain ⟨A, c, hr, hA, hc, hm, hx, hge, hb⟩ := h
    have el : lft (L, 0) = L := if_pos rfl
    rw [el] at hr hA hc hx
    obtain ⟨x, y, e, hn, hrg, hcase⟩ := gets_alike L hx
    have c0 := hr.cell (i := 0) (by omega)
    rw [show rdrCells A L.length c 0 0 = .slice A L.length c from rfl] at c0
    have f0 := hr.frozen 0
    have GN := Lib.hid (numGet_at c (by omega) hx w (hA.below hb))
    rw [hn] at GN
    have HW := Lib.hid (rg_within L 0 0)
    rw [hrg] at HW
    have HR := Lib.hid hr; clear hr
    have HA := Lib.hid hA; clear hA
    have HX := Lib.hid hx; clear hx
    have HB := Lib.hid hb; clear hb
    have hcase := Lib.hid hcase
    rcases hcase.out with ⟨rfl, hy⟩ | ⟨rfl, rfl, rfl⟩
    · have e : Hid (rdNum (L, 0) = ((L.drop y, 0), x)) := by show rdNum (L, 0) = _; rw [rdNum, if_pos rfl, hrg, if_neg (by omega)]
      rw [e.out]
      have hyL : y ≤ L.length := by have := HW.out; omega
      have SL := fun w => slice_low A L.length c y hyL w
      clear hcase hn hrg
      have HYL := Lib.hid hyL; clear hyL hy
      go_enter Try.func15, Try.ntmps15
      go_wp2
      refine wp_scope_fwd ?_
      go_wp2_with fail
      refine GE.out.mono ?_
      rintro e w' ⟨rfl, rfl⟩
      go_wp2_with fail
      refine GN.out.mono ?_
      rintro e w' ⟨rfl, rfl⟩
      go_wp2
      rw [fwd_ret]
      go_ret
      refine ⟨rfl, ⟨addrLow A y c, c - y, (HR.out.set 0 _).congr fun i hi => ?_, ?_, ?_, by omega, ?_, hge, HB.out.setCell (p := ⟨g, 0, none⟩) hge _⟩, (Only.refl _ _).set 0 _⟩
      · have : i = 0 ∨ i = 1 := by omega
        rcases this with rfl | rfl
        · show Value.slice (addrLow A y c) (L.length - y) (c - y) = .slice (addrLow A y c) (lft (L.drop y, 0)).length (c - y)
          rw [show lft (L.drop y, 0) = L.drop y from if_pos rfl, List.length_drop]
        · rfl
      · rw [show lft (L.drop y, 0) = L.drop y from if_pos rfl]; exact HA.out.low c y hc
      · rw [show lft (L.drop y, 0) = L.drop y from if_pos rfl, List.length_drop]; omega
      · rw [show lft (L.drop y, 0) = L.drop y from if_pos rfl]; exact fun x hx => HX.out x (List.mem_of_mem_drop hx)
    · have e : Hid (rdNum (L, 0) = ((L, 2), 0)) := by show rdNum (L, 0) = _; rw [rdNum, if_pos rfl, hrg, if_pos rfl]
      rw [e.out]
      have GS := Lib.hid (rdStop_ok W g (L, 0) 2 rfl (by decide) L w H.out)
      clear hcase hn hrg
      go_enter Try.func15, Try.ntmps15
      go_wp2
      refine wp_scope_fwd ?_
      go_wp2_with fail
      refine GE.out.mono ?_
      rintro e w' ⟨rfl, rfl⟩
      go_wp2_with fail
      refine GN.out.mono ?_
      rintro e w' ⟨rfl, rfl⟩
      go_wp2_with fail
      go_step3
      refine ⟨_, rfl, ?_⟩
      go_wp2_with fail
      refine GS.out.mono ?_
      rintro e w2 ⟨rfl, h2, o2⟩
      have H2 := Lib.hid h2; have O2 := Lib.hid o2; clear h2 o2
      go_wp2
      rw [Exit.noGoto_ret]
      go_ret
      exact ⟨rfl, H2.out, O2.out⟩
  · have e : Hid (rdNum (L, E) = ((L, E), 0)) := by show rdNum (L, E) = _; rw [rdNum, if_neg he]
    rw [e.out]
    have GS := Lib.hid (rdStop_err W g (L, E) E he w h)
    have he' : ((E : Int) != 0) = true := by simp; omega
    clear h he
    go_enter Try.func15, Try.ntmps15
    go_wp2
    refine wp_scope_fwd ?_
    go_wp2_with fail
    refine GE.out.mono ?_
    rintro e w' ⟨rfl, rfl⟩
    go_wp2_with fail
    go_step3
    refine ⟨_, rfl, ?_⟩
    go_wp2_with fail
    refine GS.out.mono ?_
    rintro e w' ⟨rfl, rfl⟩
    go_wp2
    rw [Exit.noGoto_ret]
    go_ret
    exact ⟨rfl, H.out, Only.refl _ _⟩
end Go.Proofs.Ytkapfijokmajlaa

/- The landed reader, codec.Reader: the contracts of Flag, Left, NewReader, Text. Condition: no more than 2^40 bytes. -/
namespace Go.Proofs.Ytkapfijokmajlaa
open Go.RowKit Go.Deep

theorem rdNum_ok (s : Rd) (h : 0 < (rdNum s).2) : (rdNum s).1.2 = 0 := by
  unfold rdNum at h ⊢
  repeat' split at h
  all_goals first | (simp at h; done) | skip
  rename_i h1 h2
  rw [if_pos h1, if_neg h2]

set_option maxRecDepth 100000 in
theorem rdrFlag_any (W : World) (g : Nat) (s : Rd) (w : World) (h : RdrAt W g s w) :
    Calls Try.prog 19 #[.pointer (some ⟨g, 0, none⟩)] w fun e w' => e = .returned (.bool (rdFlag s).2) ∧ RdrAt W g (rdFlag s).1 w' ∧ Only g w w' := by
  have GN := Lib.hid (rdrNum_any W g s w h)
  clear h
  have HLE := Lib.hid (rdNum_le s)
  have HOK := Lib.hid (rdNum_ok s)
  have HE : Hid (rdFlag s = if (rdNum s).2 > 1 then (((rdNum s).1.1, 2), false) else ((rdNum s).1, decide ((rdNum s).2 = 1))) := rfl
  obtain ⟨X, HX⟩ : ∃ X, Hid (rdNum s = X) := ⟨_, rfl⟩
  rw [HX.out] at GN HLE HE HOK
  obtain ⟨s1, n⟩ := X
  simp only at GN HLE HE HOK
  have hle := HLE.out
  by_cases hn : 1 < n
  · have e : Hid (rdFlag s = ((s1.1, 2), false)) := by show rdFlag s = _; rw [HE.out, if_pos hn]
    rw [e.out]
    have h0 := HOK.out (by omega)
    have H0 := Lib.hid h0; clear h0
    have h1 : ((n : Int) == 1) = false := beq_eq_false_iff_ne.2 (by omega)
    go_enter Try.func19, Try.ntmps19
    go_wp2_with fail
    refine GN.out.mono ?_
    rintro e w1 ⟨rfl, hin, hon⟩
    have GS := Lib.hid (rdStop_ok W g s1 2 H0.out (by decide) s1.1 w1 hin)
    have HON := Lib.hid hon; clear hon hin
    go_wp2_with fail
    refine GS.out.mono ?_
    rintro e w2 ⟨rfl, h2, o2⟩
    have H2 := Lib.hid h2; have O2 := Lib.hid o2; clear h2 o2
    go_wp2
    go_ret
    exact ⟨rfl, H2.out, HON.out.trans O2.out⟩
  · have e : Hid (rdFlag s = (s1, decide (n = 1))) := by show rdFlag s = _; rw [HE.out, if_neg hn]
    rw [e.out]
    have h1 : ((n : Int) == 1) = decide (n = 1) := by
      by_cases hh : n = 1
      · subst hh; rfl
      · rw [decide_eq_false hh]; exact beq_eq_false_iff_ne.2 (by omega)
    go_enter Try.func19, Try.ntmps19
    go_wp2_with fail
    refine GN.out.mono ?_
    rintro e w1 ⟨rfl, hin, hon⟩
    have HIN := Lib.hid hin; clear hin
    have HON := Lib.hid hon; clear hon
    go_wp2
    go_ret
    exact ⟨rfl, HIN.out, HON.out⟩

set_option maxRecDepth 100000 in
theorem rdrLeft_any (W : World) (g : Nat) (s : Rd) (w : World) (h : RdrAt W g s w) :
    Calls Try.prog 30 #[.pointer (some ⟨g, 0, none⟩)] w fun e w' => e = .returned (.int .i64 ((lft s).length : Nat)) ∧ w = w' := by
  have GE := Lib.hid (rdErr_any W g s w h)
  obtain ⟨L, E⟩ := s
  by_cases he : E = 0
  · subst he
    obtain ⟨A, c, hr, _⟩ := h
    have el : lft (L, 0) = L := if_pos rfl
    have c0 := hr.cell (i := 0) (by omega)
    rw [el] at c0 ⊢
    rw [show rdrCells A L.length c 0 0 = .slice A L.length c from rfl] at c0
    clear hr
    go_enter Try.func30, Try.ntmps30
    go_wp2_with fail
    refine GE.out.mono ?_
    rintro e w' ⟨rfl, rfl⟩
    go_wp2
    go_ret
    exact ⟨rfl, rfl⟩
  · have el : lft (L, E) = [] := if_neg he
    rw [el]
    have he' : ((E : Int) != 0) = true := by simp; omega
    clear h he
    go_enter Try.func30, Try.ntmps30
    go_wp2_with fail
    refine GE.out.mono ?_
    rintro e w' ⟨rfl, rfl⟩
    go_wp2
    go_ret
    exact ⟨rfl, rfl⟩

/-- A reader of these bytes. -/
def NewRdr (l : List Nat) (w : World) (e : Ending) (w' : World) : Prop :=
  ∃ W1 g, e = .returned (.pointer (some ⟨g, 0, none⟩)) ∧ RdrAt W1 g (l, 0) w' ∧ Below w.heap.size w W1
set_option maxRecDepth 100000 in
theorem newReader_any (A : Option Addr) (l : List Nat) (c : Nat) (hl : l.length ≤ 70368744177664) (hx : ∀ x ∈ l, x < 256) (w : World) (h : BytesAt w A l) :
    Calls Try.prog 13 #[.slice A l.length c] w (NewRdr l w) := by
  have GC := Lib.hid (clone_any A l c hl w h)
  have HX := Lib.hid hx
  clear h hx
  go_enter Try.func13, Try.ntmps13
  go_wp2_with fail
  refine GC.out.mono ?_
  rintro e w1 ⟨⟨v, rfl, ho⟩, hb⟩
  obtain ⟨A1, c1, rfl⟩ := own_slice ho
  have HO := Lib.hid ho; have HB := Lib.hid hb; clear ho hb
  go_wp2
  go_ret
  have hcap : l.length ≤ c1 ∧ c1 ≤ maxLen := by
    rcases HO.out.2 with ⟨h', h0⟩ | ⟨g', cap', cur, h', _, _, h1, h2, _⟩
    · injection h' with _ _ h'
      subst h'
      rw [h0]
      exact ⟨Nat.le_refl _, Nat.zero_le _⟩
    · injection h' with _ _ h'
      subst h'
      exact ⟨h1, h2⟩
  refine ⟨w1, w1.heap.size, rfl, ⟨A1, c1, ?_, ?_, ?_, hcap.2, ?_, Nat.le_refl _, (Below.refl _ _).alloc (Nat.le_refl _) _⟩, HB.out⟩
  · rw [show lft (l, 0) = l from if_pos rfl]
    exact World.rowIs_alloc w1 _ _ _ (fun i hi => by
      have : i = 0 ∨ i = 1 := by simp at hi; omega
      rcases this with rfl | rfl <;> rfl)
  · rw [show lft (l, 0) = l from if_pos rfl]; exact BytesAt.of_own HO.out rfl
  · rw [show lft (l, 0) = l from if_pos rfl]; exact hcap.1
  · rw [show lft (l, 0) = l from if_pos rfl]; exact HX.out
end Go.Proofs.Ytkapfijokmajlaa

/- The landed reader, codec.Reader: the contract of Text. Condition: no more than 2^40 bytes. -/
namespace Go.Proofs.Ytkapfijokmajlaa
open Go.RowKit Go.Deep

set_option maxHeartbeats 2000000 in
set_option maxRecDepth 100000 in
theorem rdrText_any (W : World) (g : Nat) (s : Rd) (most : Nat) (hl : s.1.length ≤ 1099511627776) (w : World) (h : RdrAt W g s w) :
    Calls Try.prog 17 #[.pointer (some ⟨g, 0, none⟩), .int .i64 (most : Int)] w fun e w' => e = .returned (.string (bstr (rdText most s).2)) ∧ RdrAt W g (rdText most s).1 w' ∧ Only g w w' := by
  have GN := Lib.hid (rdrNum_any W g s w h)
  clear h
  have HLE := Lib.hid (rdNum_le s)
  have HLN := Lib.hid (Nat.le_trans (rdNum_length s) hl)
  clear hl
  have HE : Hid (rdText most s = if (rdNum s).1.2 = 0 then
    (if (rdNum s).2 > (rdNum s).1.1.length ∨ validB ((rdNum s).1.1.take (rdNum s).2) = false then (((rdNum s).1.1, 2), [])
     else if (rdNum s).2 > most then (((rdNum s).1.1, 3), [])
     else (((rdNum s).1.1.drop (rdNum s).2, 0), (rdNum s).1.1.take (rdNum s).2))
  else ((rdNum s).1, [])) := rfl
  obtain ⟨X, HX⟩ : ∃ X, Hid (rdNum s = X) := ⟨_, rfl⟩
  rw [HX.out] at GN HLE HLN HE
  obtain ⟨⟨L, E⟩, n⟩ := X
  simp only at GN HLE HLN HE
  have hle := HLE.out
  by_cases hE : E = 0
  · subst hE
    rw [if_pos rfl] at HE
    by_cases hn : L.length < n
    · have e : Hid (rdText most s = ((L, 2), [])) := by show rdText most s = _; rw [HE.out, if_pos (.inl hn)]
      rw [e.out]
      go_enter Try.func17, Try.ntmps17
      go_wp2
      refine wp_scope_fwd ?_
      go_wp2_with fail
      refine GN.out.mono ?_
      rintro e w1 ⟨rfl, hin, hon⟩
      have HIN := Lib.hid hin
      have HON := Lib.hid hon
      have GE := Lib.hid (rdErr_any W g (L, 0) w1 hin)
      have GS := Lib.hid (rdStop_ok W g (L, 0) 2 rfl (by decide) L w1 hin)
      obtain ⟨A, c, hr, _⟩ := hin
      have c0 := hr.cell (i := 0) (by omega)
      rw [show rdrCells A (lft (L, 0)).length c 0 0 = .slice A L.length c from rfl] at c0
      clear hon hr
      go_wp2_with fail
      refine GE.out.mono ?_
      rintro e w' ⟨rfl, rfl⟩
      go_wp2_with fail
      go_step3
      refine ⟨_, rfl, ?_⟩
      go_wp2_with fail
      refine GS.out.mono ?_
      rintro e w2 ⟨rfl, h2, o2⟩
      have H2 := Lib.hid h2; have O2 := Lib.hid o2; clear h2 o2
      go_wp2
      rw [Exit.noGoto_ret]
      go_ret
      exact ⟨rfl, H2.out, HON.out.trans O2.out⟩
    · have hnL : n ≤ L.length := by omega
      obtain ⟨T, HT⟩ : ∃ T, Hid (L.take n = T) := ⟨_, rfl⟩
      have HTL : Hid (T.length = n) := by show T.length = n; rw [← HT.out, List.length_take]; omega
      rw [HT.out] at HE
      by_cases hv : validB T = false
      · have e : Hid (rdText most s = ((L, 2), [])) := by show rdText most s = _; rw [HE.out, if_pos (.inr hv)]
        rw [e.out]
        have HV := Lib.hid hv; clear hv
        go_enter Try.func17, Try.ntmps17
        go_wp2
        refine wp_scope_fwd ?_
        go_wp2_with fail
        refine GN.out.mono ?_
        rintro e w1 ⟨rfl, hin, hon⟩
        have HIN := Lib.hid hin
        have HON := Lib.hid hon
        have GE := Lib.hid (rdErr_any W g (L, 0) w1 hin)
        have GS := Lib.hid (rdStop_ok W g (L, 0) 2 rfl (by decide) L w1 hin)
        obtain ⟨A, c, hr, hA, hc, hm, hx, hge, hb⟩ := hin
        have c0 := hr.cell (i := 0) (by omega)
        rw [show rdrCells A (lft (L, 0)).length c 0 0 = .slice A L.length c from rfl] at c0
        rw [show lft (L, 0) = L from if_pos rfl] at hA hc hx
        have SH := fun w => slice_high A L.length c n (by omega) w
        have hcv := ((hA.below hb).high c n).conv c
        rw [HT.out, HTL.out] at hcv
        have hcv := hcv 9 Try.underlying9
        have GV := Lib.hid (utfValid_any T (fun x hxT => hx x (by rw [← HT.out] at hxT; exact List.mem_of_mem_take hxT)) (by rw [HTL.out]; exact hle) w1)
        rw [HV.out] at GV
        clear hon hr hA hx hb
        go_wp2_with fail
        refine GE.out.mono ?_
        rintro e w' ⟨rfl, rfl⟩
        go_wp2_with fail
        refine GV.out.mono ?_
        rintro e w' ⟨rfl, rfl⟩
        go_wp2_with fail
        go_step3
        refine ⟨_, rfl, ?_⟩
        go_wp2_with fail
        refine GS.out.mono ?_
        rintro e w2 ⟨rfl, h2, o2⟩
        have H2 := Lib.hid h2; have O2 := Lib.hid o2; clear h2 o2
        go_wp2
        rw [Exit.noGoto_ret]
        go_ret
        exact ⟨rfl, H2.out, HON.out.trans O2.out⟩
      · have hv' : validB T = true := by cases hh : validB T; exact absurd hh hv; rfl
        have HV := Lib.hid hv'; clear hv hv'
        by_cases hmost : most < n
        · have e : Hid (rdText most s = ((L, 3), [])) := by show rdText most s = _; rw [HE.out, if_neg (by rw [HV.out]; simp; omega), if_pos hmost]
          rw [e.out]
          go_enter Try.func17, Try.ntmps17
          go_wp2
          refine wp_scope_fwd ?_
          go_wp2_with fail
          refine GN.out.mono ?_
          rintro e w1 ⟨rfl, hin, hon⟩
          have HIN := Lib.hid hin
          have HON := Lib.hid hon
          have GE := Lib.hid (rdErr_any W g (L, 0) w1 hin)
          have GS := Lib.hid (rdStop_ok W g (L, 0) 3 rfl (by decide) L w1 hin)
          obtain ⟨A, c, hr, hA, hc, hm, hx, hge, hb⟩ := hin
          have c0 := hr.cell (i := 0) (by omega)
          rw [show rdrCells A (lft (L, 0)).length c 0 0 = .slice A L.length c from rfl] at c0
          rw [show lft (L, 0) = L from if_pos rfl] at hA hc hx
          have SH := fun w => slice_high A L.length c n (by omega) w
          have hcv := ((hA.below hb).high c n).conv c
          rw [HT.out, HTL.out] at hcv
          have hcv := hcv 9 Try.underlying9
          have GV := Lib.hid (utfValid_any T (fun x hxT => hx x (by rw [← HT.out] at hxT; exact List.mem_of_mem_take hxT)) (by rw [HTL.out]; exact hle) w1)
          rw [HV.out] at GV
          clear hon hr hA hx hb
          go_wp2_with fail
          refine GE.out.mono ?_
          rintro e w' ⟨rfl, rfl⟩
          go_wp2_with fail
          refine GV.out.mono ?_
          rintro e w' ⟨rfl, rfl⟩
          go_wp2_with fail
          go_step3
          refine ⟨_, rfl, ?_⟩
          go_wp2_with fail
          refine GS.out.mono ?_
          rintro e w2 ⟨rfl, h2, o2⟩
          have H2 := Lib.hid h2; have O2 := Lib.hid o2; clear h2 o2
          go_wp2
          rw [Exit.noGoto_ret]
          go_ret
          exact ⟨rfl, H2.out, HON.out.trans O2.out⟩
        · have e : Hid (rdText most s = ((L.drop n, 0), T)) := by show rdText most s = _; rw [HE.out, if_neg (by rw [HV.out]; simp; omega), if_neg hmost]
          rw [e.out]
          go_enter Try.func17, Try.ntmps17
          go_wp2
          refine wp_scope_fwd ?_
          go_wp2_with fail
          refine GN.out.mono ?_
          rintro e w1 ⟨rfl, hin, hon⟩
          have HIN := Lib.hid hin
          have HON := Lib.hid hon
          have GE := Lib.hid (rdErr_any W g (L, 0) w1 hin)
          obtain ⟨A, c, hr, hA, hc, hm, hx, hge, hb⟩ := hin
          have HR := Lib.hid hr
          have c0 := hr.cell (i := 0) (by omega)
          rw [show rdrCells A (lft (L, 0)).length c 0 0 = .slice A L.length c from rfl] at c0
          have f0 := hr.frozen 0
          rw [show lft (L, 0) = L from if_pos rfl] at hA hc hx
          have SH := fun w => slice_high A L.length c n (by omega) w
          have SL := fun w => slice_low A L.length c n hnL w
          have hcv := ((hA.below hb).high c n).conv c
          rw [HT.out, HTL.out] at hcv
          have hcv := hcv 9 Try.underlying9
          have GV := Lib.hid (utfValid_any T (fun x hxT => hx x (by rw [← HT.out] at hxT; exact List.mem_of_mem_take hxT)) (by rw [HTL.out]; exact hle) w1)
          rw [HV.out] at GV
          have HA := Lib.hid hA; have HXX := Lib.hid hx; have HB := Lib.hid hb
          clear hon hr hA hx hb
          go_wp2_with fail
          refine GE.out.mono ?_
          rintro e w' ⟨rfl, rfl⟩
          go_wp2_with fail
          refine GV.out.mono ?_
          rintro e w' ⟨rfl, rfl⟩
          go_wp2
          rw [fwd_ret]
          go_ret
          refine ⟨rfl, ⟨addrLow A n c, c - n, (HR.out.set 0 _).congr fun i hi => ?_, ?_, ?_, by omega, ?_, hge, HB.out.setCell (p := ⟨g, 0, none⟩) hge _⟩, HON.out.set 0 _⟩
          · have : i = 0 ∨ i = 1 := by omega
            rcases this with rfl | rfl
            · show Value.slice (addrLow A n c) (L.length - n) (c - n) = .slice (addrLow A n c) (lft (L.drop n, 0)).length (c - n)
              rw [show lft (L.drop n, 0) = L.drop n from if_pos rfl, List.length_drop]
            · rfl
          · rw [show lft (L.drop n, 0) = L.drop n from if_pos rfl]; exact HA.out.low c n hc
          · rw [show lft (L.drop n, 0) = L.drop n from if_pos rfl, List.length_drop]; omega
          · rw [show lft (L.drop n, 0) = L.drop n from if_pos rfl]; exact fun x hx => HXX.out x (List.mem_of_mem_drop hx)
  · have e : Hid (rdText most s = ((L, E), [])) := by show rdText most s = _; rw [HE.out, if_neg hE]
    rw [e.out]
    have he' : ((E : Int) != 0) = true := by simp; omega
    have HEE := Lib.hid hE; clear hE
    go_enter Try.func17, Try.ntmps17
    go_wp2
    refine wp_scope_fwd ?_
    go_wp2_with fail
    refine GN.out.mono ?_
    rintro e w1 ⟨rfl, hin, hon⟩
    have HIN := Lib.hid hin
    have HON := Lib.hid hon
    have GE := Lib.hid (rdErr_any W g (L, E) w1 hin)
    have GS := Lib.hid (rdStop_err W g (L, E) E HEE.out w1 hin)
    clear hon hin
    go_wp2_with fail
    refine GE.out.mono ?_
    rintro e w' ⟨rfl, rfl⟩
    go_wp2_with fail
    go_step3
    refine ⟨_, rfl, ?_⟩
    go_wp2_with fail
    refine GS.out.mono ?_
    rintro e w' ⟨rfl, rfl⟩
    go_wp2
    rw [Exit.noGoto_ret]
    go_ret
    exact ⟨rfl, HIN.out, HON.out⟩
end Go.Proofs.Ytkapfijokmajlaa

/- The contract of the statements' own awake over the landed writer and reader; and what a writer that is none answers. No condition. -/
namespace Go.Proofs.Ytkapfijokmajlaa
open Go.RowKit Go.Deep

theorem put_nil (b : Bool) (v : Value) (w : World) : Calls Try.prog 50 #[.pointer none, .bool b, v] w fun e w' => e = .returned (.pointer none) ∧ w = w' := by
  go_enter Try.func50, Try.ntmps50
  go_wp2
  refine wp_scope_fwd ?_
  go_wp2_with fail
  go_step3
  refine ⟨_, rfl, ?_⟩
  go_wp2
  rw [Exit.noGoto_ret]
  go_ret
  exact ⟨rfl, rfl⟩
theorem wrNum_nil (n : Nat) (hn : n ≤ 1099511627776) (w : World) : Calls Try.prog 12 #[.pointer none, .int .i64 (n : Int)] w fun e w' => e = .returned (.pointer none) ∧ Below w.heap.size w w' := by
  have GF := Lib.hid (fun w => numFits_yes (n : Int) (by omega) (by omega) w)
  have GP := Lib.hid (fun w => numPut_yes n hn w)
  have GU := Lib.hid (fun b v w => put_nil b v w)
  clear hn
  go_enter Try.func12, Try.ntmps12
  go_wp2_with fail
  refine (GF.out _).mono ?_
  rintro e w' ⟨rfl, rfl⟩
  go_wp2_with fail
  refine (GP.out _).mono ?_
  rintro e w1 ⟨v, rfl, hv⟩
  have HB := Lib.hid hv.below; clear hv
  go_wp2_with fail
  refine (GU.out _ _ _).mono ?_
  rintro e w' ⟨rfl, rfl⟩
  go_wp2
  go_ret
  exact ⟨rfl, HB.out⟩
theorem wrDone_nil (w : World) : Calls Try.prog 11 #[.pointer none] w fun e w' => e = .returned (.tuple #[.slice none 0 0, .bool false]) ∧ w = w' := by
  go_enter Try.func11, Try.ntmps11
  go_wp2
  go_ret2
  exact ⟨rfl, rfl⟩

theorem nput_one : nput 1 = [1] := by decide
theorem rdFlag_aw : rdFlag ([2, 9], 0) = (([9], 2), false) := by decide
theorem bstr_one : bstr [1] = { data := #[1] } := by decide

set_option maxHeartbeats 1000000 in
set_option maxRecDepth 100000 in
theorem awake_any (w : World) : Calls Try.prog 8 #[] w fun e w' => e = .returned (.bool true) ∧ Below w.heap.size w w' := by
  have GF := Lib.hid (wrFlag_any w w.heap.size ([], false) (fun k => k = w.heap.size) true (by simp) _ (WrAt.start w))
  have GD := Lib.hid (fun O w' (hh : WrAt w w.heap.size ([1], false) O w') => wrDone_any w w.heap.size ([1], false) O (by simp) w' hh)
  have GR := Lib.hid (fun (A : Option Addr) (w' : World) (hh : BytesAt w' A [2, 9]) (c : Nat) => newReader_any A [2, 9] c (by simp) (by simp) w' hh)
  have GEN := Lib.hid (fun w => rdErr_nil w)
  have GNN := Lib.hid (fun w => rdrNum_nil w)
  go_enter Try.func8, Try.ntmps8
  go_wp2_with fail
  refine GF.out.mono ?_
  rintro e w1 ⟨rfl, O1, hw1, _⟩
  have hw1 : WrAt w w.heap.size ([1], false) O1 w1 := by
    have e : ink ([], false) (iFlag true) = ([1], false) := by
      show ink ([], false) (iNum ((1 : Nat) : Int)) = _
      rw [iNum_yes (by omega), nput_one]; rfl
    rwa [e] at hw1
  have HW1 := Lib.hid hw1; clear hw1
  go_wp2_with fail
  refine (GD.out _ _ HW1.out).mono ?_
  rintro e w2 ⟨hd, hb2⟩
  rcases hd with ⟨h1, _⟩ | ⟨_, A2, k2, rfl, ho2⟩
  · cases h1
  have HA2 := Lib.hid (BytesAt.of_own (l := [1]) ho2 rfl)
  have HB2 : Hid (Below w.heap.size w w2) := HW1.out.upto.trans (hb2.mono HW1.out.upto.size)
  clear ho2 hb2
  go_wp2_with fail
  refine (GR.out (some ⟨w2.heap.size, 0, none⟩) _ (BytesAt.lit (fun j x hj => by
    match j, hj with
    | 0, hj => simp at hj; subst hj; rfl
    | 1, hj => simp at hj; subst hj; rfl
    | n + 2, hj => simp at hj) rfl) 2).mono ?_
  rintro e w3 ⟨W3, g3, rfl, hr3, hb3⟩
  have hW3 : w2.heap.size ≤ W3.heap.size := Nat.le_trans (by simp) hb3.size
  have hb4 : Below W3.heap.size W3 w3 := by obtain ⟨_, _, _, _, _, _, _, _, hb⟩ := hr3; exact hb
  have HB3 : Hid (Below w2.heap.size w2 w3) := ((Below.refl _ _).alloc (Nat.le_refl _) _).trans ((hb3.mono (by simp)).trans (hb4.mono hW3))
  have hcv : (convert 25 9 (.slice A2 1 k2)).run Try.prog w3 = .ok (.string { data := #[1] }) w3 := by
    have h := (HA2.out.below HB3.out).conv k2 9 Try.underlying9
    rw [bstr_one] at h
    exact h
  have hge : W3.heap.size ≤ g3 := by obtain ⟨_, _, _, _, _, _, _, hg, _⟩ := hr3; exact hg
  have HW3 : Hid (w2.heap.size ≤ g3) := Nat.le_trans hW3 hge
  have GFL := Lib.hid (rdrFlag_any W3 g3 ([2, 9], 0) w3 hr3)
  rw [rdFlag_aw] at GFL
  clear hr3 hb3 hW3 hb4 hge
  go_wp2_with fail
  refine GFL.out.mono ?_
  rintro e w4 ⟨rfl, hr4, ho4⟩
  have GE4 := Lib.hid (rdErr_any W3 g3 (([9], 2) : Rd) w4 hr4)
  have GL4 := Lib.hid (rdrLeft_any W3 g3 (([9], 2) : Rd) w4 hr4)
  have HB4 : Hid (Below w2.heap.size w2 w4) := HB3.out.trans ⟨ho4.os, ho4.tape, ho4.output, ho4.size, fun k hk => ho4.block k (Nat.lt_of_lt_of_le hk HB3.out.size) (by have := HW3.out; omega)⟩
  clear hr4 ho4 hcv
  go_wp2_with fail
  refine GE4.out.mono ?_
  rintro e w' ⟨rfl, rfl⟩
  go_wp2_with fail
  refine GL4.out.mono ?_
  rintro e w' ⟨rfl, rfl⟩
  go_wp2_with fail
  refine (GEN.out _).mono ?_
  rintro e w' ⟨rfl, rfl⟩
  go_wp2_with fail
  refine (GNN.out _).mono ?_
  rintro e w' ⟨rfl, rfl⟩
  go_wp2
  go_ret
  exact ⟨rfl, HB2.out.trans (HB4.out.mono HB2.out.size)⟩
end Go.Proofs.Ytkapfijokmajlaa
