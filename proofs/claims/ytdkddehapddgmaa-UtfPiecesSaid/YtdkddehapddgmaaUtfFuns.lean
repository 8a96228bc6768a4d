/- The contracts of utf.Valid, utf.Count, utf.Points, utf.Offset, utf.Slice, over any bytes, texts or not. Condition: no more than 2^40 bytes. -/
import Derived.Test.YtdkddehapddgmaaUtfWalks
import Derived.Test.YtdkddehapddgmaaInts
import Derived.Test.YtdkddehapddgmaaShelf
namespace Go.Proofs.Ytdkddehapddgmaa
open Go.RowKit Go.Deep

theorem enters_of_func {k : Nat} {fn : Func} {c : Code} (hf : Try.prog.funcs[k]? = some fn) (hname : (fn.name == "runtime.NumGoroutine") = false) (hb : fn.body = some c) : ∀ (args : Array Value) (w : World), (callFunc k args).run Try.prog w = .ok (.enter k args) w := Go.Proofs.enters_of hf hname hb

/-! ### Valid -/
theorem show_none (a b : Int) (w : World) : Calls Try.prog 27 (#[.int .i64 a, .int .i64 b] ++ #[]) w fun e w' => e = .returned (.tuple #[]) ∧ w = w' := by
  go_enter Try.func27, Try.ntmps27
  go_wp2
  go_end0
  exact ⟨rfl, rfl⟩
theorem utfValid_yes {l vs : List Nat} (h : V l vs) (hl : l.length ≤ 1099511627776) (w : World) :
    Calls Try.prog 13 #[.string (bstr l)] w fun e w' => e = .returned (.bool true) ∧ w = w' := by
  have HW := Lib.hid (utfWalk_any 27 (enters_of_func Try.func27 (by kernel_rfl) rfl) #[] l hl (by rw [← h.bytes]; exact E_lt h.may) (fun _ x => x = w)
    (fun vs v w1 hw _ _ => by subst hw; exact (show_none _ _ w1).mono (fun e w' h => ⟨h.1, h.2.symm⟩)) w rfl)
  go_enter Try.func13, Try.ntmps13
  go_wp2_with fail
  refine HW.out.mono ?_
  rintro e w' (⟨ws, hv, rfl, hw⟩ | ⟨hn, _, _⟩)
  · subst hw
    go_wp2
    go_ret
    exact ⟨rfl, rfl⟩
  · exact absurd ⟨vs, h⟩ hn
theorem utfValid_no {l : List Nat} (h : ¬ ∃ vs, V l vs) (hb : ∀ x ∈ l, x < 256) (hl : l.length ≤ 1099511627776) (w : World) :
    Calls Try.prog 13 #[.string (bstr l)] w fun e w' => e = .returned (.bool false) ∧ w = w' := by
  have HW := Lib.hid (utfWalk_any 27 (enters_of_func Try.func27 (by kernel_rfl) rfl) #[] l hl hb (fun _ x => x = w)
    (fun vs v w1 hw _ _ => by subst hw; exact (show_none _ _ w1).mono (fun e w' h => ⟨h.1, h.2.symm⟩)) w rfl)
  go_enter Try.func13, Try.ntmps13
  go_wp2_with fail
  refine HW.out.mono ?_
  rintro e w' (⟨ws, hv, _, hw⟩ | ⟨hn, rfl, _, hw⟩)
  · exact absurd ⟨ws, hv⟩ h
  · subst hw
    go_wp2
    go_ret
    exact ⟨rfl, rfl⟩

/-! ### Count -/
/-- The block g of one cell, the call's own, counts. -/
def CountInv (W : World) (g : Nat) (vs : List Nat) (w : World) : Prop := w.rowIs g 3 1 (fun _ => .int .i64 ((vs.length : Nat) : Int)) ∧ Below g W w
theorem CountInv.start (W : World) : CountInv W W.heap.size [] (W.alloc (.cells #[.int .i64 0] 3)) :=
  ⟨World.rowIs_alloc W #[.int .i64 0] 3 (fun _ => .int .i64 (([] : List Nat).length : Int)) (fun i hi => by simp at hi; subst hi; rfl), (Below.refl _ _).alloc (Nat.le_refl _) _⟩
theorem show_count (W : World) (g : Nat) (vs : List Nat) (v : Nat) (b : Int) (w : World) (h : CountInv W g vs w) (hl : vs.length ≤ 1099511627776) :
    Calls Try.prog 23 (#[.int .i64 ((v : Nat) : Int), .int .i64 b] ++ #[.pointer (some ⟨g, 0, none⟩)]) w fun e w' => e = .returned (.tuple #[]) ∧ CountInv W g (vs ++ [v]) w' := by
  have hc := h.1.cell (i := 0) (by omega)
  have hf := h.1.frozen 0
  have H := Lib.hid h; clear h
  obtain ⟨n, HN⟩ : ∃ n, Hid (n = vs.length) := ⟨_, rfl⟩
  rw [← HN.out] at hc hl
  go_enter Try.func23, Try.ntmps23
  go_wp2
  go_end0
  refine ⟨rfl, (H.out.1.set 0 _).congr fun i hi => ?_, H.out.2.setCell (Nat.le_refl _) _⟩
  rw [if_pos (by omega), List.length_append, ← HN.out]
  simp
theorem V.length_le {l vs : List Nat} (h : V l vs) : vs.length ≤ l.length := by rw [← h.bytes]; exact E_length_le vs
theorem utfCount_walk (l : List Nat) (hb : ∀ x ∈ l, x < 256) (hl : l.length ≤ 1099511627776) (w : World) :
    Calls Try.prog 22 #[.string (bstr l), .func (.func 23) #[] #[.pointer (some ⟨w.heap.size, 0, none⟩)]] (w.alloc (.cells #[.int .i64 0] 3)) fun e w' =>
      (∃ vs, V l vs ∧ e = .returned (.bool true) ∧ CountInv w w.heap.size vs w') ∨ ((¬ ∃ vs, V l vs) ∧ e = .returned (.bool false) ∧ ∃ vs, CountInv w w.heap.size vs w') :=
  utfWalk_any 23 (enters_of_func Try.func23 (by kernel_rfl) rfl) _ l hl hb (CountInv w w.heap.size)
    (fun vs v w1 h hm he => show_count w _ vs v _ w1 h (by have := E_length_le (vs ++ [v]); simp at this; omega)) _ (CountInv.start w)
theorem utfCount_yes {l vs : List Nat} (h : V l vs) (hl : l.length ≤ 1099511627776) (w : World) :
    Calls Try.prog 9 #[.string (bstr l)] w fun e w' => e = .returned (.tuple #[.int .i64 ((vs.length : Nat) : Int), .int .i64 0]) ∧ Below w.heap.size w w' := by
  have HW := Lib.hid (utfCount_walk l (by rw [← h.bytes]; exact E_lt h.may) hl w)
  have hmf : ∀ (fn : Fn) (first cap : Array Value) (w : World), (Instr.makeFunc fn first cap).run Try.prog w = .ok (.func fn first cap) w := fun _ _ _ _ => rfl
  have H := Lib.hid h; clear h
  go_enter Try.func9, Try.ntmps9
  go_wp2_with fail
  refine HW.out.mono ?_
  rintro e w' (⟨ws, hv, rfl, hc, hbel⟩ | ⟨hn, _, _⟩)
  · obtain rfl := hv.uniq H.out
    have hcell := hc.cell (i := 0) (by omega)
    clear hc hv
    go_wp2
    go_ret2
    exact ⟨rfl, hbel⟩
  · exact absurd ⟨vs, H.out⟩ hn
theorem utfCount_no {l : List Nat} (h : ¬ ∃ vs, V l vs) (hb : ∀ x ∈ l, x < 256) (hl : l.length ≤ 1099511627776) (w : World) :
    Calls Try.prog 9 #[.string (bstr l)] w fun e w' => e = .returned (.tuple #[.int .i64 0, .int .i64 2]) ∧ Below w.heap.size w w' := by
  have HW := Lib.hid (utfCount_walk l hb hl w)
  have hmf : ∀ (fn : Fn) (first cap : Array Value) (w : World), (Instr.makeFunc fn first cap).run Try.prog w = .ok (.func fn first cap) w := fun _ _ _ _ => rfl
  have H := Lib.hid h; clear h
  go_enter Try.func9, Try.ntmps9
  go_wp2_with fail
  refine HW.out.mono ?_
  rintro e w' (⟨ws, hv, _⟩ | ⟨hn, rfl, ws, hc, hbel⟩)
  · exact absurd ⟨ws, hv⟩ H.out
  · clear hc hn
    go_wp2
    go_ret2
    exact ⟨rfl, hbel⟩

/-! ### Points -/
def nz (vs : List Nat) : List Int := vs.map fun v : Nat => (v : Int)
theorem nz_length (vs : List Nat) : (nz vs).length = vs.length := by simp [nz]
theorem nz_snoc (vs : List Nat) (v : Nat) : nz (vs ++ [v]) = nz vs ++ [(v : Int)] := by simp [nz]
/-- The block g of one cell holds the slice of the code points so far, a row of the call's own above it. -/
def PointsInv (W : World) (g : Nat) (vs : List Nat) (w : World) : Prop :=
  ∃ v, w.rowIs g 23 1 (fun _ => v) ∧ w.ownsRow (g + 1) 3 1 v vs.length (is64 (nz vs)) ∧ Below g W w
theorem PointsInv.start (W : World) : PointsInv W W.heap.size [] (W.alloc (.cells #[.slice none 0 0] 23)) :=
  ⟨.slice none 0 0, World.rowIs_alloc W #[.slice none 0 0] 23 (fun _ => .slice none 0 0) (fun i hi => by simp at hi; subst hi; rfl), by simpa [is64, nz] using World.ownsRow_nil _ _ _ _, (Below.refl _ _).alloc (Nat.le_refl _) _⟩
set_option maxRecDepth 100000 in
theorem show_points (W : World) (g : Nat) (vs : List Nat) (v : Nat) (b : Int) (w : World) (h : PointsInv W g vs w) (hl : vs.length ≤ 1099511627776) :
    Calls Try.prog 24 (#[.int .i64 ((v : Nat) : Int), .int .i64 b] ++ #[.pointer (some ⟨g, 0, none⟩)]) w fun e w' => e = .returned (.tuple #[]) ∧ PointsInv W g (vs ++ [v]) w' := by
  obtain ⟨x, hr, ho, hbel⟩ := h
  obtain ⟨i0, hi0, hz0, hz1, hz2⟩ := info_parts int_info
  have HI0 := Lib.hid hi0; clear hi0
  have HZ0 := Lib.hid hz0; clear hz0
  have HZ1 := Lib.hid hz1; clear hz1
  have HZ2 := Lib.hid hz2; clear hz2
  have hc := hr.cell (i := 0) (by omega)
  have hgw := hr.lt
  have HO := Lib.hid ho; clear ho
  have HR := Lib.hid hr; clear hr
  have HB := Lib.hid hbel; clear hbel
  go_enter Try.func24, Try.ntmps24
  go_wp2_with (at_builtin
               refine wpList_append_own _ rfl (.tmp 5) (.tmp 7) 23 rfl (g + 1) 3 i0 (.int .i64 0) 1 8 Try.underlying23 HI0.out HZ0.out HZ1.out HZ2.out rfl (by omega) x vs.length (is64 (nz vs)) rfl (HO.out.alloc _) ⟨w.heap.size, 0, none⟩ 1 1 [.int .i64 (v : Int)] rfl rfl ?c1 ?c2 (by simp only [maxLen]; omega) (by omega) (by simp; omega) ?c6)
  case c1 =>
    intro j u hj
    match j, hj with
    | 0, hj => simp at hj; subst hj; simp [Addr.add]
    | (j + 1), hj => simp at hj
  case c2 => intro u hu; simp at hu; subst hu; rfl
  case c6 =>
    intro v' w1 hown hgr _
    have hbel1 : Below (g + 1) w w1 := (((Below.refl (g + 1) w).alloc (by omega) _).grown hgr (by simp; omega) (fun k hk => by have := (HO.out.lt k hk).1; omega))
    have hr1 : w1.rowIs g 23 1 (fun _ => x) := HR.out.of_block (hbel1.block g (by omega))
    have hf1 := hr1.frozen 0
    have hc1 := hr1.cell (i := 0) (by omega)
    have HR1 := Lib.hid hr1; clear hr1
    have HB1 := Lib.hid hbel1; clear hbel1
    have HOWN := Lib.hid hown; clear hown
    obtain ⟨A', c', rfl⟩ := own_slice HOWN.out
    go_wp2
    go_end0
    refine ⟨rfl, .slice A' (vs.length + 1) c', (HR1.out.set 0 _).congr fun i hi => ?_, ?_, (HB.out.trans (HB1.out.mono (Nat.le_succ _))).setCell (Nat.le_refl _) _⟩
    · rw [if_pos (by omega)]
    · rw [nz_snoc, is64_append, List.length_append]
      exact ownsRow_setCell_below HOWN.out (by show g < g + 1; omega) _
theorem utfPoints_walk (l : List Nat) (hb : ∀ x ∈ l, x < 256) (hl : l.length ≤ 1099511627776) (w : World) :
    Calls Try.prog 22 #[.string (bstr l), .func (.func 24) #[] #[.pointer (some ⟨w.heap.size, 0, none⟩)]] (w.alloc (.cells #[.slice none 0 0] 23)) fun e w' =>
      (∃ vs, V l vs ∧ e = .returned (.bool true) ∧ PointsInv w w.heap.size vs w') ∨ ((¬ ∃ vs, V l vs) ∧ e = .returned (.bool false) ∧ ∃ vs, PointsInv w w.heap.size vs w') :=
  utfWalk_any 24 (enters_of_func Try.func24 (by kernel_rfl) rfl) _ l hl hb (PointsInv w w.heap.size)
    (fun vs v w1 h hm he => show_points w _ vs v _ w1 h (by have := E_length_le (vs ++ [v]); simp at this; omega)) _ (PointsInv.start w)
theorem utfPoints_yes {l vs : List Nat} (h : V l vs) (hl : l.length ≤ 1099511627776) (w : World) :
    Calls Try.prog 10 #[.string (bstr l)] w fun e w' => ∃ A c, e = .returned (.tuple #[.slice A (nz vs).length c, .int .i64 0]) ∧ (nz vs).length ≤ c ∧ c ≤ maxLen ∧ IntsAt w' A (nz vs) ∧ Below w.heap.size w w' := by
  have HW := Lib.hid (utfPoints_walk l (by rw [← h.bytes]; exact E_lt h.may) hl w)
  have hmf : ∀ (fn : Fn) (first cap : Array Value) (w : World), (Instr.makeFunc fn first cap).run Try.prog w = .ok (.func fn first cap) w := fun _ _ _ _ => rfl
  have H := Lib.hid h; clear h
  go_enter Try.func10, Try.ntmps10
  go_wp2_with fail
  refine HW.out.mono ?_
  rintro e w' (⟨ws, hv, rfl, x, hr, ho, hbel⟩ | ⟨hn, _, _⟩)
  · obtain rfl := hv.uniq H.out
    have hcell := hr.cell (i := 0) (by omega)
    have HO := Lib.hid ho
    have hcap : ∃ A c, x = .slice A ws.length c ∧ ws.length ≤ c ∧ c ≤ maxLen := by
      rcases ho.2 with ⟨rfl, h2⟩ | ⟨g', cap', cur, h', _, _, h1, h2, _⟩
      · have : ws.length = 0 := by omega
        exact ⟨none, 0, by rw [this], by omega, by simp [maxLen]⟩
      · exact ⟨_, _, h', h1, h2⟩
    clear hr hv ho
    obtain ⟨A, c, rfl, hc1, hc2⟩ := hcap
    go_wp2
    go_ret2
    exact ⟨A, c, by rw [nz_length]; rfl, by rw [nz_length]; exact hc1, hc2, IntsAt.of_own HO.out (nz_length _).symm, hbel⟩
  · exact absurd ⟨vs, H.out⟩ hn
theorem utfPoints_no {l : List Nat} (h : ¬ ∃ vs, V l vs) (hb : ∀ x ∈ l, x < 256) (hl : l.length ≤ 1099511627776) (w : World) :
    Calls Try.prog 10 #[.string (bstr l)] w fun e w' => e = .returned (.tuple #[.slice none 0 0, .int .i64 2]) ∧ Below w.heap.size w w' := by
  have HW := Lib.hid (utfPoints_walk l hb hl w)
  have hmf : ∀ (fn : Fn) (first cap : Array Value) (w : World), (Instr.makeFunc fn first cap).run Try.prog w = .ok (.func fn first cap) w := fun _ _ _ _ => rfl
  have H := Lib.hid h; clear h
  go_enter Try.func10, Try.ntmps10
  go_wp2_with fail
  refine HW.out.mono ?_
  rintro e w' (⟨ws, hv, _⟩ | ⟨hn, rfl, ws, x, hr, ho, hbel⟩)
  · exact absurd ⟨ws, hv⟩ H.out
  · clear hr hn ho
    go_wp2
    go_ret2
    exact ⟨rfl, hbel⟩

/-! ### Offset -/
theorem cell_new (W : World) (v : Value) (t : TypeId) : (W.alloc (.cells #[v] t)).rowIs W.heap.size t 1 (fun _ => v) := World.rowIs_alloc W #[v] t (fun _ => v) (fun i hi => by simp at hi; subst hi; rfl)
/-- Three blocks of one cell, the call's own: the place that is asked, how many code points there were, how many bytes those ahead of the place have. -/
def OffInv (W : World) (g : Nat) (n : Int) (vs : List Nat) (w : World) : Prop :=
  w.rowIs g 3 1 (fun _ => .int .i64 n) ∧ w.rowIs (g + 1) 3 1 (fun _ => .int .i64 ((vs.length : Nat) : Int)) ∧ w.rowIs (g + 1 + 1) 3 1 (fun _ => .int .i64 (((E (vs.take n.toNat)).length : Nat) : Int)) ∧ Below g W w
theorem OffInv.start (W : World) (n : Int) : OffInv W W.heap.size n [] (((W.alloc (.cells #[.int .i64 n] 3)).alloc (.cells #[.int .i64 0] 3)).alloc (.cells #[.int .i64 0] 3)) := by
  refine ⟨((cell_new W _ _).alloc _).alloc _, ?_, ?_, (((Below.refl _ _).alloc (Nat.le_refl _) _).alloc (by simp) _).alloc (by simp; omega) _⟩
  · have := (cell_new (W.alloc (.cells #[.int .i64 n] 3)) (.int .i64 0) 3).alloc (.cells #[.int .i64 0] 3)
    rw [World.size_alloc] at this
    exact this
  · have := cell_new ((W.alloc (.cells #[.int .i64 n] 3)).alloc (.cells #[.int .i64 0] 3)) (.int .i64 0) 3
    rw [World.size_alloc, World.size_alloc] at this
    rw [List.take_nil, E_nil]
    exact this
set_option maxRecDepth 100000 in
theorem show_offset (W : World) (g : Nat) (n : Int) (vs : List Nat) (v : Nat) (w : World) (h : OffInv W g n vs w) (hl : vs.length ≤ 1099511627776) :
    Calls Try.prog 26 (#[.int .i64 ((v : Nat) : Int), .int .i64 (((E (vs ++ [v])).length : Nat) : Int)] ++ #[.pointer (some ⟨g + 1, 0, none⟩), .pointer (some ⟨g, 0, none⟩), .pointer (some ⟨g + 1 + 1, 0, none⟩)]) w fun e w' => e = .returned (.tuple #[]) ∧ OffInv W g n (vs ++ [v]) w' := by
  obtain ⟨h1, h2, h3, h4⟩ := h
  have c1 := h1.cell (i := 0) (by omega)
  have c2 := h2.cell (i := 0) (by omega)
  have f2 := h2.frozen 0
  have f3 := h3.frozen 0
  have H1 := Lib.hid h1; clear h1
  have H2 := Lib.hid h2; clear h2
  have H3 := Lib.hid h3; clear h3
  have H4 := Lib.hid h4; clear h4
  obtain ⟨m, HM⟩ : ∃ m, Hid (m = vs.length) := ⟨_, rfl⟩
  obtain ⟨q, HQ⟩ : ∃ q, Hid (q = (E (vs ++ [v])).length) := ⟨_, rfl⟩
  rw [← HM.out] at c2 hl
  rw [← HQ.out]
  have h3' := H3.out.setOther (a := ⟨g + 1, 0, none⟩) (by show g + 1 + 1 ≠ g + 1; omega) (.int .i64 ((m : Int) + 1))
  have f3' := h3'.frozen 0
  have c3' := h3'.cell (i := 0) (by omega)
  have h2' := H2.out.set 0 (.int .i64 ((m : Int) + 1))
  have c2' := h2'.cell (i := 0) (by omega)
  rw [if_pos rfl] at c2'
  have h1' := H1.out.setOther (a := ⟨g + 1, 0, none⟩) (by show g ≠ g + 1; omega) (.int .i64 ((m : Int) + 1))
  have c1' := h1'.cell (i := 0) (by omega)
  clear h3' h2' h1'
  by_cases hn : (m : Int) + 1 ≤ n
  · have e : Hid ((vs ++ [v]).take n.toNat = vs ++ [v]) := by show _ = _; exact List.take_of_length_le (by rw [List.length_append, ← HM.out]; simp; omega)
    go_enter Try.func26, Try.ntmps26
    go_wp2
    go_end0
    refine ⟨rfl, (H1.out.setOther (by show g ≠ g + 1; omega) _).setOther (by show g ≠ g + 1 + 1; omega) _, ?_, ?_, (H4.out.setCell (by show g ≤ g + 1; omega) _).setCell (by show g ≤ g + 1 + 1; omega) _⟩
    · refine ((H2.out.set 0 _).setOther (by show g + 1 ≠ g + 1 + 1; omega) _).congr fun i hi => ?_
      rw [if_pos (by omega), List.length_append, ← HM.out]
      simp
    · refine ((H3.out.setOther (by show g + 1 + 1 ≠ g + 1; omega) _).set 0 _).congr fun i hi => ?_
      rw [if_pos (by omega), e.out, HQ.out]
  · have e : Hid ((vs ++ [v]).take n.toNat = vs.take n.toNat) := by show _ = _; exact List.take_append_of_le_length (by rw [← HM.out]; omega)
    go_enter Try.func26, Try.ntmps26
    go_wp2
    go_end0
    refine ⟨rfl, H1.out.setOther (by show g ≠ g + 1; omega) _, ?_, ?_, H4.out.setCell (by show g ≤ g + 1; omega) _⟩
    · refine (H2.out.set 0 _).congr fun i hi => ?_
      rw [if_pos (by omega), List.length_append, ← HM.out]
      simp
    · refine (H3.out.setOther (by show g + 1 + 1 ≠ g + 1; omega) _).congr fun i hi => ?_
      rw [e.out]
end Go.Proofs.Ytdkddehapddgmaa
