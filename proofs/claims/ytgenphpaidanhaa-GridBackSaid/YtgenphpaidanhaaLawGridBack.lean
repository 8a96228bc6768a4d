/- GridBack, walked: a place's point is that place, and a point's place that point; points that are none are refused. Condition: what memory may hold. -/
import Derived.Test.YtgenphpaidanhaaGridKit
import Derived.Test.YtgenphpaidanhaaLawGridOrder
namespace Go.Proofs.Ytgenphpaidanhaa
open Go.RowKit Go.Deep Ieee
attribute [-go_sem] binOp_float_cmp_eql binOp_float_cmp_neq binOp_float_cmp_lss binOp_float_cmp_leq binOp_float_cmp_gtr binOp_float_cmp_geq run_eql_complex run_neq_complex run_min_int2 run_max_int2
attribute [local irreducible] floatOfInt

/-- A point that is a place's: where it is. -/
theorem place_point {l vs : List Nat} (hv : V l vs) (hl : l.length ≤ 1099511627776) {k c : Nat} (hk : k ≤ lst vs) (hc : c ≤ wdt vs k) :
    ∃ g, (bgs vs vs.length)[k]? = some g ∧ g + c ≤ vs.length ∧ lin vs (g + c) = k ∧ col vs (g + c) = c ∧ ∀ {ca cb : Nat}, PtV ca cb (c : Int) (k : Int) → ∀ w, Calls Try.prog 13 #[.string (bstr l), .complex .f64 ca cb] w fun e W' => e = .returned (.tuple #[.int .i64 ((g : Int) + (c : Int)), .int .i64 0]) ∧ Below w.heap.size w W' := by
  obtain ⟨g, h1, h2, h3, h4⟩ := line_place vs hk hc
  refine ⟨g, h1, h2, h3, h4, fun {ca cb} hp w => ?_⟩
  have := place_yes hv hl h2 (ca := ca) (cb := cb) (by rw [h3, h4]; exact hp) w
  rw [show ((g + c : Nat) : Int) = (g : Int) + (c : Int) by omega] at this
  exact this
/-- A point that is none. -/
theorem place_not {l vs : List Nat} (hv : V l vs) (hl : l.length ≤ 1099511627776) {ca cb : Nat} {x y : Int} (hca : FV ca x) (hcb : FV cb y) (hno : ∀ q : Nat, q ≤ vs.length → ¬ (16 * (col vs q : Int) = x ∧ 16 * (lin vs q : Int) = y)) (w : World) :
    Calls Try.prog 13 #[.string (bstr l), .complex .f64 ca cb] w fun e W' => e = .returned (.tuple #[.int .i64 0, .int .i64 1]) ∧ Below w.heap.size w W' := by
  refine (place_in hv hl hca hcb w).mono ?_
  rintro e w' ⟨⟨q, hq, h, _⟩ | ⟨_, rfl⟩, hb⟩
  · exact absurd h (hno q hq)
  · exact ⟨rfl, hb⟩

set_option maxHeartbeats 16000000 in
set_option maxRecDepth 100000 in
theorem back_half (l : List Nat) (line col_ : Int) {vs : List Nat} (hv : V l vs) (h300 : ((l.length : Nat) : Int) ≤ 300) (hl0 : -1000 ≤ line) (hl1 : line ≤ 1000) (hc0 : -1000 ≤ col_) (hc1 : col_ ≤ 1000) (w : World) :
    Calls Try.prog 4 #[.string (bstr l), .int .i64 line, .int .i64 col_, .bool true] w fun e w' => e = .returned (.bool true) ∧ Below w.heap.size w w' := by
  have GA := Lib.hid (fun w => gridAwake_any w)
  have HW0 := Lib.hid (Below.refl w.heap.size w)
  have HSZ := bstr_size l
  have hl : l.length ≤ 1099511627776 := by omega
  have GV := Lib.hid (fun w => refValid_any l hv.lt hl w)
  rw [validB_yes hv] at GV
  have GC := Lib.hid (fun w => refCount_yes hv hl w)
  have GAT := Lib.hid (fun p h w => at_yes (p := p) hv hl h w)
  have GPL := Lib.hid (fun q h a b h2 w => place_yes (q := q) (ca := a) (cb := b) hv hl h h2 w)
  have GR := Lib.hid (fun w => kRefLines hv hl w)
  have hvl := hv.length_le
  obtain ⟨M, HM⟩ : ∃ M : Nat, min (vs.length : Int) 60 = (M : Int) := ⟨(min (vs.length : Int) 60).toNat, by omega⟩
  have hmin := rMin (vs.length : Int) 60 HM
  have HML : Hid (M ≤ vs.length) := by show M ≤ _; omega
  have hM : (M : Int) ≤ 60 := by omega
  have e0 : ((lst vs + 1 : Nat) : Int) = (lst vs : Int) + 1 := by omega
  have e1 : (0 : Int) ≤ (lst vs : Int) := by omega
  obtain ⟨hr, R1, hf⟩ := fadd_fv (FV.ofInt (n := col_) (by omega)) FV.cHalf (by omega)
  have GP := Lib.hid (fun w => place_not hv hl hf (FV.ofInt (n := line) (by omega)) (fun q _ h => by omega) w)
  clear hf
  clear hv HM
  go_enter Try.func4, Try.ntmps4
  go_wp2_with fail
  refine (GV.out _).mono ?_
  rintro e w1 ⟨rfl, hb⟩
  have HW1 : Hid (Below w.heap.size w w1) := HW0.out.trans (hb.mono HW0.out.size)
  clear hb
  go_wp2_with fail
  refine (GC.out _).mono ?_
  rintro e w2 ⟨rfl, hb⟩
  have HW2 : Hid (Below w.heap.size w w2) := HW1.out.trans (hb.mono HW1.out.size)
  clear hb
  go_wp2
  go_loopw [8, 10] (fun r p wr => ∃ q : Nat, q ≤ M + 1 ∧ r = .bool false ∧ p = .int .i64 (q : Int) ∧ Hid (Below w.heap.size w wr)) (fun _ p _ => M + 1 - (intOf p).toNat)
  case atStart => exact ⟨0, Nat.zero_le _, rfl, rfl, HW2⟩
  case round =>
    obtain ⟨q, hq, rfl, rfl, HWR⟩ := hrel
    by_cases hlt : q ≤ M
    · have hqi : (q : Int) ≤ (M : Int) := by omega
      have HQ : Hid (q ≤ vs.length) := by show q ≤ _; have := HML.out; omega
      go_wp2_with fail
      refine (GAT.out q HQ.out _).mono ?_
      rintro e w3 ⟨⟨a, b, rfl, hp⟩, hb⟩
      have HW3 := Lib.hid (HWR.out.trans (hb.mono HWR.out.size))
      have HP := Lib.hid hp
      clear hb hp
      go_wp2_with fail
      refine (GPL.out q HQ.out a b HP.out _).mono ?_
      rintro e w4 ⟨rfl, hb⟩
      have HW4 := Lib.hid (HW3.out.trans (hb.mono HW3.out.size))
      clear hb
      go_wp2
      go_roundw
      case rel => exact ⟨q + 1, by omega, rfl, by go_num, HW4⟩
      case measure => simp [intOf]; omega
    · have hqi : (M : Int) < (q : Int) := by omega
      have HW9 := HWR
      go_wp2_with fail
      refine (GR.out _).mono ?_
      rintro e w10 ⟨⟨b1, o1, c1, b2, o2, c2, rfl, hg, hd⟩, hb⟩
      have HW10 : Hid (Below w.heap.size w w10) := HW9.out.trans (hb.mono HW9.out.size)
      clear hd hg
      clear hb
      go_wp2_with fail
      refine (GP.out _).mono ?_
      rintro e w11 ⟨rfl, hb⟩
      have HW11 : Hid (Below w.heap.size w w11) := HW10.out.trans (hb.mono HW10.out.size)
      clear hb
      go_wp2_with fail
      refine (GA.out _).mono ?_
      rintro e w12 ⟨rfl, hb⟩
      have HW12 : Hid (Below w.heap.size w w12) := HW11.out.trans (hb.mono HW11.out.size)
      clear hb
      go_wp2
      go_ret
      exact ⟨rfl, HW12.out⟩
set_option maxHeartbeats 16000000 in
set_option maxRecDepth 100000 in
theorem back_low (l : List Nat) (line col_ : Int) {vs : List Nat} (hv : V l vs) (h300 : ((l.length : Nat) : Int) ≤ 300) (hl0 : -1000 ≤ line) (hl1 : line ≤ 1000) (hc0 : -1000 ≤ col_) (hc1 : col_ ≤ 1000) (hk : line < 0) (w : World) :
    Calls Try.prog 4 #[.string (bstr l), .int .i64 line, .int .i64 col_, .bool false] w fun e w' => e = .returned (.bool true) ∧ Below w.heap.size w w' := by
  have GA := Lib.hid (fun w => gridAwake_any w)
  have HW0 := Lib.hid (Below.refl w.heap.size w)
  have HSZ := bstr_size l
  have hl : l.length ≤ 1099511627776 := by omega
  have GV := Lib.hid (fun w => refValid_any l hv.lt hl w)
  rw [validB_yes hv] at GV
  have GC := Lib.hid (fun w => refCount_yes hv hl w)
  have GAT := Lib.hid (fun p h w => at_yes (p := p) hv hl h w)
  have GPL := Lib.hid (fun q h a b h2 w => place_yes (q := q) (ca := a) (cb := b) hv hl h h2 w)
  have GR := Lib.hid (fun w => kRefLines hv hl w)
  have hvl := hv.length_le
  obtain ⟨M, HM⟩ : ∃ M : Nat, min (vs.length : Int) 60 = (M : Int) := ⟨(min (vs.length : Int) 60).toNat, by omega⟩
  have hmin := rMin (vs.length : Int) 60 HM
  have HML : Hid (M ≤ vs.length) := by show M ≤ _; omega
  have hM : (M : Int) ≤ 60 := by omega
  have e0 : ((lst vs + 1 : Nat) : Int) = (lst vs : Int) + 1 := by omega
  have e1 : (0 : Int) ≤ (lst vs : Int) := by omega
  have GP := Lib.hid (fun w => place_not hv hl (FV.ofInt (n := col_) (by omega)) (FV.ofInt (n := line) (by omega)) (fun q hq h => by have := lin_lst vs hq; omega) w)
  clear hv HM
  go_enter Try.func4, Try.ntmps4
  go_wp2_with fail
  refine (GV.out _).mono ?_
  rintro e w1 ⟨rfl, hb⟩
  have HW1 : Hid (Below w.heap.size w w1) := HW0.out.trans (hb.mono HW0.out.size)
  clear hb
  go_wp2_with fail
  refine (GC.out _).mono ?_
  rintro e w2 ⟨rfl, hb⟩
  have HW2 : Hid (Below w.heap.size w w2) := HW1.out.trans (hb.mono HW1.out.size)
  clear hb
  go_wp2
  go_loopw [8, 10] (fun r p wr => ∃ q : Nat, q ≤ M + 1 ∧ r = .bool false ∧ p = .int .i64 (q : Int) ∧ Hid (Below w.heap.size w wr)) (fun _ p _ => M + 1 - (intOf p).toNat)
  case atStart => exact ⟨0, Nat.zero_le _, rfl, rfl, HW2⟩
  case round =>
    obtain ⟨q, hq, rfl, rfl, HWR⟩ := hrel
    by_cases hlt : q ≤ M
    · have hqi : (q : Int) ≤ (M : Int) := by omega
      have HQ : Hid (q ≤ vs.length) := by show q ≤ _; have := HML.out; omega
      go_wp2_with fail
      refine (GAT.out q HQ.out _).mono ?_
      rintro e w3 ⟨⟨a, b, rfl, hp⟩, hb⟩
      have HW3 := Lib.hid (HWR.out.trans (hb.mono HWR.out.size))
      have HP := Lib.hid hp
      clear hb hp
      go_wp2_with fail
      refine (GPL.out q HQ.out a b HP.out _).mono ?_
      rintro e w4 ⟨rfl, hb⟩
      have HW4 := Lib.hid (HW3.out.trans (hb.mono HW3.out.size))
      clear hb
      go_wp2
      go_roundw
      case rel => exact ⟨q + 1, by omega, rfl, by go_num, HW4⟩
      case measure => simp [intOf]; omega
    · have hqi : (M : Int) < (q : Int) := by omega
      have HW9 := HWR
      go_wp2_with fail
      refine (GR.out _).mono ?_
      rintro e w10 ⟨⟨b1, o1, c1, b2, o2, c2, rfl, hg, hd⟩, hb⟩
      have HW10 : Hid (Below w.heap.size w w10) := HW9.out.trans (hb.mono HW9.out.size)
      clear hd hg
      clear hb
      go_wp2_with fail
      refine (GP.out _).mono ?_
      rintro e w11 ⟨rfl, hb⟩
      have HW11 : Hid (Below w.heap.size w w11) := HW10.out.trans (hb.mono HW10.out.size)
      clear hb
      go_wp2_with fail
      refine (GA.out _).mono ?_
      rintro e w12 ⟨rfl, hb⟩
      have HW12 : Hid (Below w.heap.size w w12) := HW11.out.trans (hb.mono HW11.out.size)
      clear hb
      go_wp2
      go_ret
      exact ⟨rfl, HW12.out⟩
set_option maxHeartbeats 16000000 in
set_option maxRecDepth 100000 in
theorem back_high (l : List Nat) (line col_ : Int) {vs : List Nat} (hv : V l vs) (h300 : ((l.length : Nat) : Int) ≤ 300) (hl0 : -1000 ≤ line) (hl1 : line ≤ 1000) (hc0 : -1000 ≤ col_) (hc1 : col_ ≤ 1000) (hk : (lst vs : Int) < line) (w : World) :
    Calls Try.prog 4 #[.string (bstr l), .int .i64 line, .int .i64 col_, .bool false] w fun e w' => e = .returned (.bool true) ∧ Below w.heap.size w w' := by
  have GA := Lib.hid (fun w => gridAwake_any w)
  have HW0 := Lib.hid (Below.refl w.heap.size w)
  have HSZ := bstr_size l
  have hl : l.length ≤ 1099511627776 := by omega
  have GV := Lib.hid (fun w => refValid_any l hv.lt hl w)
  rw [validB_yes hv] at GV
  have GC := Lib.hid (fun w => refCount_yes hv hl w)
  have GAT := Lib.hid (fun p h w => at_yes (p := p) hv hl h w)
  have GPL := Lib.hid (fun q h a b h2 w => place_yes (q := q) (ca := a) (cb := b) hv hl h h2 w)
  have GR := Lib.hid (fun w => kRefLines hv hl w)
  have hvl := hv.length_le
  obtain ⟨M, HM⟩ : ∃ M : Nat, min (vs.length : Int) 60 = (M : Int) := ⟨(min (vs.length : Int) 60).toNat, by omega⟩
  have hmin := rMin (vs.length : Int) 60 HM
  have HML : Hid (M ≤ vs.length) := by show M ≤ _; omega
  have hM : (M : Int) ≤ 60 := by omega
  have e0 : ((lst vs + 1 : Nat) : Int) = (lst vs : Int) + 1 := by omega
  have e1 : (0 : Int) ≤ (lst vs : Int) := by omega
  have GP := Lib.hid (fun w => place_not hv hl (FV.ofInt (n := col_) (by omega)) (FV.ofInt (n := line) (by omega)) (fun q hq h => by have := lin_lst vs hq; omega) w)
  clear hv HM
  go_enter Try.func4, Try.ntmps4
  go_wp2_with fail
  refine (GV.out _).mono ?_
  rintro e w1 ⟨rfl, hb⟩
  have HW1 : Hid (Below w.heap.size w w1) := HW0.out.trans (hb.mono HW0.out.size)
  clear hb
  go_wp2_with fail
  refine (GC.out _).mono ?_
  rintro e w2 ⟨rfl, hb⟩
  have HW2 : Hid (Below w.heap.size w w2) := HW1.out.trans (hb.mono HW1.out.size)
  clear hb
  go_wp2
  go_loopw [8, 10] (fun r p wr => ∃ q : Nat, q ≤ M + 1 ∧ r = .bool false ∧ p = .int .i64 (q : Int) ∧ Hid (Below w.heap.size w wr)) (fun _ p _ => M + 1 - (intOf p).toNat)
  case atStart => exact ⟨0, Nat.zero_le _, rfl, rfl, HW2⟩
  case round =>
    obtain ⟨q, hq, rfl, rfl, HWR⟩ := hrel
    by_cases hlt : q ≤ M
    · have hqi : (q : Int) ≤ (M : Int) := by omega
      have HQ : Hid (q ≤ vs.length) := by show q ≤ _; have := HML.out; omega
      go_wp2_with fail
      refine (GAT.out q HQ.out _).mono ?_
      rintro e w3 ⟨⟨a, b, rfl, hp⟩, hb⟩
      have HW3 := Lib.hid (HWR.out.trans (hb.mono HWR.out.size))
      have HP := Lib.hid hp
      clear hb hp
      go_wp2_with fail
      refine (GPL.out q HQ.out a b HP.out _).mono ?_
      rintro e w4 ⟨rfl, hb⟩
      have HW4 := Lib.hid (HW3.out.trans (hb.mono HW3.out.size))
      clear hb
      go_wp2
      go_roundw
      case rel => exact ⟨q + 1, by omega, rfl, by go_num, HW4⟩
      case measure => simp [intOf]; omega
    · have hqi : (M : Int) < (q : Int) := by omega
      have HW9 := HWR
      go_wp2_with fail
      refine (GR.out _).mono ?_
      rintro e w10 ⟨⟨b1, o1, c1, b2, o2, c2, rfl, hg, hd⟩, hb⟩
      have HW10 : Hid (Below w.heap.size w w10) := HW9.out.trans (hb.mono HW9.out.size)
      clear hd hg
      clear hb
      go_wp2_with fail
      refine (GP.out _).mono ?_
      rintro e w11 ⟨rfl, hb⟩
      have HW11 : Hid (Below w.heap.size w w11) := HW10.out.trans (hb.mono HW10.out.size)
      clear hb
      go_wp2_with fail
      refine (GA.out _).mono ?_
      rintro e w12 ⟨rfl, hb⟩
      have HW12 : Hid (Below w.heap.size w w12) := HW11.out.trans (hb.mono HW11.out.size)
      clear hb
      go_wp2
      go_ret
      exact ⟨rfl, HW12.out⟩
set_option maxHeartbeats 16000000 in
set_option maxRecDepth 100000 in
theorem back_left (l : List Nat) (k : Nat) (col_ : Int) {vs : List Nat} (hv : V l vs) (h300 : ((l.length : Nat) : Int) ≤ 300) (hl0 : -1000 ≤ (k : Int)) (hl1 : (k : Int) ≤ 1000) (hc0 : -1000 ≤ col_) (hc1 : col_ ≤ 1000) (hk : k ≤ lst vs) (hc : col_ < 0) (w : World) :
    Calls Try.prog 4 #[.string (bstr l), .int .i64 (k : Int), .int .i64 col_, .bool false] w fun e w' => e = .returned (.bool true) ∧ Below w.heap.size w w' := by
  have GA := Lib.hid (fun w => gridAwake_any w)
  have HW0 := Lib.hid (Below.refl w.heap.size w)
  have HSZ := bstr_size l
  have hl : l.length ≤ 1099511627776 := by omega
  have GV := Lib.hid (fun w => refValid_any l hv.lt hl w)
  rw [validB_yes hv] at GV
  have GC := Lib.hid (fun w => refCount_yes hv hl w)
  have GAT := Lib.hid (fun p h w => at_yes (p := p) hv hl h w)
  have GPL := Lib.hid (fun q h a b h2 w => place_yes (q := q) (ca := a) (cb := b) hv hl h h2 w)
  have GR := Lib.hid (fun w => kRefLines hv hl w)
  have hvl := hv.length_le
  obtain ⟨M, HM⟩ : ∃ M : Nat, min (vs.length : Int) 60 = (M : Int) := ⟨(min (vs.length : Int) 60).toNat, by omega⟩
  have hmin := rMin (vs.length : Int) 60 HM
  have HML : Hid (M ≤ vs.length) := by show M ≤ _; omega
  have hM : (M : Int) ≤ 60 := by omega
  have e0 : ((lst vs + 1 : Nat) : Int) = (lst vs : Int) + 1 := by omega
  have e1 : (0 : Int) ≤ (lst vs : Int) := by omega
  have GP := Lib.hid (fun w => place_not hv hl (FV.ofInt (n := col_) (by omega)) (FV.ofInt (n := (k : Int)) (by omega)) (fun q hq h => by omega) w)
  have hki : (k : Int) < (lst vs : Int) + 1 := by omega
  clear hv HM
  go_enter Try.func4, Try.ntmps4
  go_wp2_with fail
  refine (GV.out _).mono ?_
  rintro e w1 ⟨rfl, hb⟩
  have HW1 : Hid (Below w.heap.size w w1) := HW0.out.trans (hb.mono HW0.out.size)
  clear hb
  go_wp2_with fail
  refine (GC.out _).mono ?_
  rintro e w2 ⟨rfl, hb⟩
  have HW2 : Hid (Below w.heap.size w w2) := HW1.out.trans (hb.mono HW1.out.size)
  clear hb
  go_wp2
  go_loopw [8, 10] (fun r p wr => ∃ q : Nat, q ≤ M + 1 ∧ r = .bool false ∧ p = .int .i64 (q : Int) ∧ Hid (Below w.heap.size w wr)) (fun _ p _ => M + 1 - (intOf p).toNat)
  case atStart => exact ⟨0, Nat.zero_le _, rfl, rfl, HW2⟩
  case round =>
    obtain ⟨q, hq, rfl, rfl, HWR⟩ := hrel
    by_cases hlt : q ≤ M
    · have hqi : (q : Int) ≤ (M : Int) := by omega
      have HQ : Hid (q ≤ vs.length) := by show q ≤ _; have := HML.out; omega
      go_wp2_with fail
      refine (GAT.out q HQ.out _).mono ?_
      rintro e w3 ⟨⟨a, b, rfl, hp⟩, hb⟩
      have HW3 := Lib.hid (HWR.out.trans (hb.mono HWR.out.size))
      have HP := Lib.hid hp
      clear hb hp
      go_wp2_with fail
      refine (GPL.out q HQ.out a b HP.out _).mono ?_
      rintro e w4 ⟨rfl, hb⟩
      have HW4 := Lib.hid (HW3.out.trans (hb.mono HW3.out.size))
      clear hb
      go_wp2
      go_roundw
      case rel => exact ⟨q + 1, by omega, rfl, by go_num, HW4⟩
      case measure => simp [intOf]; omega
    · have hqi : (M : Int) < (q : Int) := by omega
      have HW9 := HWR
      go_wp2_with fail
      refine (GR.out _).mono ?_
      rintro e w10 ⟨⟨b1, o1, c1, b2, o2, c2, rfl, hg, hd⟩, hb⟩
      have HW10 : Hid (Below w.heap.size w w10) := HW9.out.trans (hb.mono HW9.out.size)
      clear hd hg
      clear hb
      go_wp2_with fail
      refine (GP.out _).mono ?_
      rintro e w11 ⟨rfl, hb⟩
      have HW11 : Hid (Below w.heap.size w w11) := HW10.out.trans (hb.mono HW10.out.size)
      clear hb
      go_wp2_with fail
      refine (GA.out _).mono ?_
      rintro e w12 ⟨rfl, hb⟩
      have HW12 : Hid (Below w.heap.size w w12) := HW11.out.trans (hb.mono HW11.out.size)
      clear hb
      go_wp2
      go_ret
      exact ⟨rfl, HW12.out⟩
set_option maxHeartbeats 16000000 in
set_option maxRecDepth 100000 in
theorem back_right (l : List Nat) (k c : Nat) {vs : List Nat} (hv : V l vs) (h300 : ((l.length : Nat) : Int) ≤ 300) (hl0 : -1000 ≤ (k : Int)) (hl1 : (k : Int) ≤ 1000) (hc0 : -1000 ≤ (c : Int)) (hc1 : (c : Int) ≤ 1000) (hk : k ≤ lst vs) (hc : wdt vs k < c) (w : World) :
    Calls Try.prog 4 #[.string (bstr l), .int .i64 (k : Int), .int .i64 (c : Int), .bool false] w fun e w' => e = .returned (.bool true) ∧ Below w.heap.size w w' := by
  have GA := Lib.hid (fun w => gridAwake_any w)
  have HW0 := Lib.hid (Below.refl w.heap.size w)
  have HSZ := bstr_size l
  have hl : l.length ≤ 1099511627776 := by omega
  have GV := Lib.hid (fun w => refValid_any l hv.lt hl w)
  rw [validB_yes hv] at GV
  have GC := Lib.hid (fun w => refCount_yes hv hl w)
  have GAT := Lib.hid (fun p h w => at_yes (p := p) hv hl h w)
  have GPL := Lib.hid (fun q h a b h2 w => place_yes (q := q) (ca := a) (cb := b) hv hl h h2 w)
  have GR := Lib.hid (fun w => kRefLines hv hl w)
  have hvl := hv.length_le
  obtain ⟨M, HM⟩ : ∃ M : Nat, min (vs.length : Int) 60 = (M : Int) := ⟨(min (vs.length : Int) 60).toNat, by omega⟩
  have hmin := rMin (vs.length : Int) 60 HM
  have HML : Hid (M ≤ vs.length) := by show M ≤ _; omega
  have hM : (M : Int) ≤ 60 := by omega
  have e0 : ((lst vs + 1 : Nat) : Int) = (lst vs : Int) + 1 := by omega
  have e1 : (0 : Int) ≤ (lst vs : Int) := by omega
  have GP := Lib.hid (fun w => place_not hv hl (FV.ofInt (n := (c : Int)) (by omega)) (FV.ofInt (n := (k : Int)) (by omega)) (fun q hq h => by
    have := col_wdt vs hq
    rw [show lin vs q = k by omega] at this
    omega) w)
  have hki : (k : Int) < (lst vs : Int) + 1 := by omega
  have hkl : k < lst vs + 1 := by omega
  have hwn : ¬ c ≤ wdt vs k := by omega
  have hwd : decide (c ≤ wdt vs k) = false := decide_eq_false hwn
  have hwe : decide ((c : Int) ≤ (wdt vs k : Int)) = false := decide_eq_false (by omega)
  have HWG := Lib.hid (wide_get vs hk)
  have HBG : Hid ((bgs vs vs.length)[k]? = some ((bgs vs vs.length)[k]'(by rw [begins_length]; omega))) := List.getElem?_eq_getElem (by rw [begins_length]; omega)
  clear hv HM
  go_enter Try.func4, Try.ntmps4
  go_wp2_with fail
  refine (GV.out _).mono ?_
  rintro e w1 ⟨rfl, hb⟩
  have HW1 : Hid (Below w.heap.size w w1) := HW0.out.trans (hb.mono HW0.out.size)
  clear hb
  go_wp2_with fail
  refine (GC.out _).mono ?_
  rintro e w2 ⟨rfl, hb⟩
  have HW2 : Hid (Below w.heap.size w w2) := HW1.out.trans (hb.mono HW1.out.size)
  clear hb
  go_wp2
  go_loopw [8, 10] (fun r p wr => ∃ q : Nat, q ≤ M + 1 ∧ r = .bool false ∧ p = .int .i64 (q : Int) ∧ Hid (Below w.heap.size w wr)) (fun _ p _ => M + 1 - (intOf p).toNat)
  case atStart => exact ⟨0, Nat.zero_le _, rfl, rfl, HW2⟩
  case round =>
    obtain ⟨q, hq, rfl, rfl, HWR⟩ := hrel
    by_cases hlt : q ≤ M
    · have hqi : (q : Int) ≤ (M : Int) := by omega
      have HQ : Hid (q ≤ vs.length) := by show q ≤ _; have := HML.out; omega
      go_wp2_with fail
      refine (GAT.out q HQ.out _).mono ?_
      rintro e w3 ⟨⟨a, b, rfl, hp⟩, hb⟩
      have HW3 := Lib.hid (HWR.out.trans (hb.mono HWR.out.size))
      have HP := Lib.hid hp
      clear hb hp
      go_wp2_with fail
      refine (GPL.out q HQ.out a b HP.out _).mono ?_
      rintro e w4 ⟨rfl, hb⟩
      have HW4 := Lib.hid (HW3.out.trans (hb.mono HW3.out.size))
      clear hb
      go_wp2
      go_roundw
      case rel => exact ⟨q + 1, by omega, rfl, by go_num, HW4⟩
      case measure => simp [intOf]; omega
    · have hqi : (M : Int) < (q : Int) := by omega
      have HW9 := HWR
      go_wp2_with fail
      refine (GR.out _).mono ?_
      rintro e w10 ⟨⟨b1, o1, c1, b2, o2, c2, rfl, hg, hd⟩, hb⟩
      have HW10 : Hid (Below w.heap.size w w10) := HW9.out.trans (hb.mono HW9.out.size)
      have HD := Lib.hid hd
      have HG := Lib.hid hg
      clear hd hg
      clear hb
      go_wp2_with fail
      refine (GP.out _).mono ?_
      rintro e w11 ⟨rfl, hb⟩
      have HW11 : Hid (Below w.heap.size w w11) := HW10.out.trans (hb.mono HW10.out.size)
      replace HD := Lib.hid (HD.out.below hb)
      replace HG := Lib.hid (HG.out.below hb)
      have hcell := HD.out.nat HWG.out
      clear hb
      go_wp2_with fail
      refine (GA.out _).mono ?_
      rintro e w12 ⟨rfl, hb⟩
      have HW12 : Hid (Below w.heap.size w w12) := HW11.out.trans (hb.mono HW11.out.size)
      replace HD := Lib.hid (HD.out.below hb)
      replace HG := Lib.hid (HG.out.below hb)
      clear hb
      go_wp2
      go_ret
      exact ⟨rfl, HW12.out⟩
set_option maxHeartbeats 16000000 in
set_option maxRecDepth 100000 in
theorem back_in (l : List Nat) (k c : Nat) {vs : List Nat} (hv : V l vs) (h300 : ((l.length : Nat) : Int) ≤ 300) (hl0 : -1000 ≤ (k : Int)) (hl1 : (k : Int) ≤ 1000) (hc0 : -1000 ≤ (c : Int)) (hc1 : (c : Int) ≤ 1000) (hk : k ≤ lst vs) (hc : c ≤ wdt vs k) (w : World) :
    Calls Try.prog 4 #[.string (bstr l), .int .i64 (k : Int), .int .i64 (c : Int), .bool false] w fun e w' => e = .returned (.bool true) ∧ Below w.heap.size w w' := by
  have GA := Lib.hid (fun w => gridAwake_any w)
  have HW0 := Lib.hid (Below.refl w.heap.size w)
  have HSZ := bstr_size l
  have hl : l.length ≤ 1099511627776 := by omega
  have GV := Lib.hid (fun w => refValid_any l hv.lt hl w)
  rw [validB_yes hv] at GV
  have GC := Lib.hid (fun w => refCount_yes hv hl w)
  have GAT := Lib.hid (fun p h w => at_yes (p := p) hv hl h w)
  have GPL := Lib.hid (fun q h a b h2 w => place_yes (q := q) (ca := a) (cb := b) hv hl h h2 w)
  have GR := Lib.hid (fun w => kRefLines hv hl w)
  have hvl := hv.length_le
  obtain ⟨M, HM⟩ : ∃ M : Nat, min (vs.length : Int) 60 = (M : Int) := ⟨(min (vs.length : Int) 60).toNat, by omega⟩
  have hmin := rMin (vs.length : Int) 60 HM
  have HML : Hid (M ≤ vs.length) := by show M ≤ _; omega
  have hM : (M : Int) ≤ 60 := by omega
  have e0 : ((lst vs + 1 : Nat) : Int) = (lst vs : Int) + 1 := by omega
  have e1 : (0 : Int) ≤ (lst vs : Int) := by omega
  obtain ⟨g, hg1, hg2, hg3, hg4, hgp⟩ := place_point hv hl hk hc
  have HF1 := Lib.hid (FV.ofInt (n := (c : Int)) (by omega))
  have HF2 := Lib.hid (FV.ofInt (n := (k : Int)) (by omega))
  have GP := Lib.hid (fun w => hgp ⟨HF1.out, HF2.out⟩ w)
  have GQ := Lib.hid (fun w => at_yes hv hl hg2 w)
  rw [hg3, hg4, show ((g + c : Nat) : Int) = (g : Int) + (c : Int) by omega] at GQ
  have hki : (k : Int) < (lst vs : Int) + 1 := by omega
  have hkl : k < lst vs + 1 := by omega
  have hwc : (c : Int) ≤ (wdt vs k : Int) := by omega
  have hgb : (g : Int) + (c : Int) ≤ 1099511627776 := by omega
  have HWG := Lib.hid (wide_get vs hk)
  have HBG := Lib.hid hg1
  clear hg1 hg2 hg3 hg4 hgp
  clear hv HM
  go_enter Try.func4, Try.ntmps4
  go_wp2_with fail
  refine (GV.out _).mono ?_
  rintro e w1 ⟨rfl, hb⟩
  have HW1 : Hid (Below w.heap.size w w1) := HW0.out.trans (hb.mono HW0.out.size)
  clear hb
  go_wp2_with fail
  refine (GC.out _).mono ?_
  rintro e w2 ⟨rfl, hb⟩
  have HW2 : Hid (Below w.heap.size w w2) := HW1.out.trans (hb.mono HW1.out.size)
  clear hb
  go_wp2
  go_loopw [8, 10] (fun r p wr => ∃ q : Nat, q ≤ M + 1 ∧ r = .bool false ∧ p = .int .i64 (q : Int) ∧ Hid (Below w.heap.size w wr)) (fun _ p _ => M + 1 - (intOf p).toNat)
  case atStart => exact ⟨0, Nat.zero_le _, rfl, rfl, HW2⟩
  case round =>
    obtain ⟨q, hq, rfl, rfl, HWR⟩ := hrel
    by_cases hlt : q ≤ M
    · have hqi : (q : Int) ≤ (M : Int) := by omega
      have HQ : Hid (q ≤ vs.length) := by show q ≤ _; have := HML.out; omega
      go_wp2_with fail
      refine (GAT.out q HQ.out _).mono ?_
      rintro e w3 ⟨⟨a, b, rfl, hp⟩, hb⟩
      have HW3 := Lib.hid (HWR.out.trans (hb.mono HWR.out.size))
      have HP := Lib.hid hp
      clear hb hp
      go_wp2_with fail
      refine (GPL.out q HQ.out a b HP.out _).mono ?_
      rintro e w4 ⟨rfl, hb⟩
      have HW4 := Lib.hid (HW3.out.trans (hb.mono HW3.out.size))
      clear hb
      go_wp2
      go_roundw
      case rel => exact ⟨q + 1, by omega, rfl, by go_num, HW4⟩
      case measure => simp [intOf]; omega
    · have hqi : (M : Int) < (q : Int) := by omega
      have HW9 := HWR
      go_wp2_with fail
      refine (GR.out _).mono ?_
      rintro e w10 ⟨⟨b1, o1, c1, b2, o2, c2, rfl, hg, hd⟩, hb⟩
      have HW10 : Hid (Below w.heap.size w w10) := HW9.out.trans (hb.mono HW9.out.size)
      have HD := Lib.hid hd
      have HG := Lib.hid hg
      clear hd hg
      clear hb
      go_wp2_with fail
      refine (GP.out _).mono ?_
      rintro e w11 ⟨rfl, hb⟩
      have HW11 : Hid (Below w.heap.size w w11) := HW10.out.trans (hb.mono HW10.out.size)
      replace HD := Lib.hid (HD.out.below hb)
      replace HG := Lib.hid (HG.out.below hb)
      have hcell := HD.out.nat HWG.out
      clear hb
      go_wp2_with fail
      refine (GQ.out _).mono ?_
      rintro e w12 ⟨⟨a3, b3, rfl, hp3⟩, hb⟩
      have HW12 : Hid (Below w.heap.size w w12) := HW11.out.trans (hb.mono HW11.out.size)
      replace HD := Lib.hid (HD.out.below hb)
      replace HG := Lib.hid (HG.out.below hb)
      have hbeg := HG.out.nat HBG.out
      have R3 := ceq_fv hp3.1 hp3.2 HF1.out HF2.out (r := true) (by simp)
      clear hp3
      clear hb
      go_wp2_with fail
      refine (GA.out _).mono ?_
      rintro e w13 ⟨rfl, hb⟩
      have HW13 : Hid (Below w.heap.size w w13) := HW12.out.trans (hb.mono HW12.out.size)
      replace HD := Lib.hid (HD.out.below hb)
      replace HG := Lib.hid (HG.out.below hb)
      clear hb
      go_wp2
      go_ret
      exact ⟨rfl, HW13.out⟩
set_option maxHeartbeats 16000000 in
set_option maxRecDepth 100000 in
theorem back_long (l : List Nat) (line col_ : Int) (half : Bool) (h : 300 < l.length) (w : World) :
    Calls Try.prog 4 #[.string (bstr l), .int .i64 line, .int .i64 col_, .bool half] w fun e w' => e = .returned (.bool true) ∧ Below w.heap.size w w' := by
  have GA := Lib.hid (fun w => gridAwake_any w)
  have HW0 := Lib.hid (Below.refl w.heap.size w)
  have HSZ := bstr_size l
  go_enter Try.func4, Try.ntmps4
  go_wp2_with fail
  refine (GA.out _).mono ?_
  rintro e w1 ⟨rfl, hb⟩
  have HW1 : Hid (Below w.heap.size w w1) := HW0.out.trans (hb.mono HW0.out.size)
  clear hb
  go_wp2
  go_ret
  exact ⟨rfl, HW1.out⟩
set_option maxHeartbeats 16000000 in
set_option maxRecDepth 100000 in
theorem back_o1 (l : List Nat) (line col_ : Int) (half : Bool) (h300 : l.length ≤ 300) (h : line < -1000) (w : World) :
    Calls Try.prog 4 #[.string (bstr l), .int .i64 line, .int .i64 col_, .bool half] w fun e w' => e = .returned (.bool true) ∧ Below w.heap.size w w' := by
  have GA := Lib.hid (fun w => gridAwake_any w)
  have HW0 := Lib.hid (Below.refl w.heap.size w)
  have HSZ := bstr_size l
  have h3 : ((l.length : Nat) : Int) ≤ 300 := by omega
  go_enter Try.func4, Try.ntmps4
  go_wp2_with fail
  refine (GA.out _).mono ?_
  rintro e w1 ⟨rfl, hb⟩
  have HW1 : Hid (Below w.heap.size w w1) := HW0.out.trans (hb.mono HW0.out.size)
  clear hb
  go_wp2
  go_ret
  exact ⟨rfl, HW1.out⟩
set_option maxHeartbeats 16000000 in
set_option maxRecDepth 100000 in
theorem back_o2 (l : List Nat) (line col_ : Int) (half : Bool) (h300 : l.length ≤ 300) (h : 1000 < line) (w : World) :
    Calls Try.prog 4 #[.string (bstr l), .int .i64 line, .int .i64 col_, .bool half] w fun e w' => e = .returned (.bool true) ∧ Below w.heap.size w w' := by
  have GA := Lib.hid (fun w => gridAwake_any w)
  have HW0 := Lib.hid (Below.refl w.heap.size w)
  have HSZ := bstr_size l
  have h3 : ((l.length : Nat) : Int) ≤ 300 := by omega
  have h4 : -1000 ≤ line := by omega
  go_enter Try.func4, Try.ntmps4
  go_wp2_with fail
  refine (GA.out _).mono ?_
  rintro e w1 ⟨rfl, hb⟩
  have HW1 : Hid (Below w.heap.size w w1) := HW0.out.trans (hb.mono HW0.out.size)
  clear hb
  go_wp2
  go_ret
  exact ⟨rfl, HW1.out⟩
set_option maxHeartbeats 16000000 in
set_option maxRecDepth 100000 in
theorem back_o3 (l : List Nat) (line col_ : Int) (half : Bool) (h300 : l.length ≤ 300) (h1 : -1000 ≤ line) (h2 : line ≤ 1000) (h : col_ < -1000) (w : World) :
    Calls Try.prog 4 #[.string (bstr l), .int .i64 line, .int .i64 col_, .bool half] w fun e w' => e = .returned (.bool true) ∧ Below w.heap.size w w' := by
  have GA := Lib.hid (fun w => gridAwake_any w)
  have HW0 := Lib.hid (Below.refl w.heap.size w)
  have HSZ := bstr_size l
  have h3 : ((l.length : Nat) : Int) ≤ 300 := by omega
  go_enter Try.func4, Try.ntmps4
  go_wp2_with fail
  refine (GA.out _).mono ?_
  rintro e w1 ⟨rfl, hb⟩
  have HW1 : Hid (Below w.heap.size w w1) := HW0.out.trans (hb.mono HW0.out.size)
  clear hb
  go_wp2
  go_ret
  exact ⟨rfl, HW1.out⟩
set_option maxHeartbeats 16000000 in
set_option maxRecDepth 100000 in
theorem back_o4 (l : List Nat) (line col_ : Int) (half : Bool) (h300 : l.length ≤ 300) (h1 : -1000 ≤ line) (h2 : line ≤ 1000) (h : 1000 < col_) (w : World) :
    Calls Try.prog 4 #[.string (bstr l), .int .i64 line, .int .i64 col_, .bool half] w fun e w' => e = .returned (.bool true) ∧ Below w.heap.size w w' := by
  have GA := Lib.hid (fun w => gridAwake_any w)
  have HW0 := Lib.hid (Below.refl w.heap.size w)
  have HSZ := bstr_size l
  have h3 : ((l.length : Nat) : Int) ≤ 300 := by omega
  have h4 : -1000 ≤ col_ := by omega
  go_enter Try.func4, Try.ntmps4
  go_wp2_with fail
  refine (GA.out _).mono ?_
  rintro e w1 ⟨rfl, hb⟩
  have HW1 : Hid (Below w.heap.size w w1) := HW0.out.trans (hb.mono HW0.out.size)
  clear hb
  go_wp2
  go_ret
  exact ⟨rfl, HW1.out⟩
set_option maxHeartbeats 16000000 in
set_option maxRecDepth 100000 in
theorem back_none (l : List Nat) (line col_ : Int) (half : Bool) (hv : ¬ ∃ vs, V l vs) (hb : ∀ x ∈ l, x < 256) (h300 : l.length ≤ 300) (h1 : -1000 ≤ line) (h2 : line ≤ 1000) (h3 : -1000 ≤ col_) (h4 : col_ ≤ 1000) (w : World) :
    Calls Try.prog 4 #[.string (bstr l), .int .i64 line, .int .i64 col_, .bool half] w fun e w' => e = .returned (.bool true) ∧ Below w.heap.size w w' := by
  have GA := Lib.hid (fun w => gridAwake_any w)
  have HW0 := Lib.hid (Below.refl w.heap.size w)
  have HSZ := bstr_size l
  have GV := Lib.hid (fun w => refValid_any l hb (by omega) w)
  rw [validB_no hv] at GV
  have h5 : ((l.length : Nat) : Int) ≤ 300 := by omega
  clear hb hv
  go_enter Try.func4, Try.ntmps4
  go_wp2_with fail
  refine (GV.out _).mono ?_
  rintro e w1 ⟨rfl, hb⟩
  have HW1 : Hid (Below w.heap.size w w1) := HW0.out.trans (hb.mono HW0.out.size)
  clear hb
  go_wp2_with fail
  refine (GA.out _).mono ?_
  rintro e w2 ⟨rfl, hb⟩
  have HW2 : Hid (Below w.heap.size w w2) := HW1.out.trans (hb.mono HW1.out.size)
  clear hb
  go_wp2
  go_ret
  exact ⟨rfl, HW2.out⟩
theorem gridBack_any (l : List Nat) (line col_ : Int) (half : Bool) (hb : ∀ x ∈ l, x < 256) (_hm : l.length ≤ maxLen) (_hp : Fit64 line) (_hk : Fit64 col_) (w : World) :
    Calls Try.prog 4 #[.string (bstr l), .int .i64 line, .int .i64 col_, .bool half] w fun e w' => e = .returned (.bool true) ∧ Below w.heap.size w w' := by
  by_cases g1 : 300 < l.length
  · exact back_long l line col_ half g1 w
  have h300 : l.length ≤ 300 := by omega
  have h3i : ((l.length : Nat) : Int) ≤ 300 := by omega
  by_cases o1 : line < -1000
  · exact back_o1 l line col_ half h300 o1 w
  by_cases o2 : 1000 < line
  · exact back_o2 l line col_ half h300 o2 w
  by_cases o3 : col_ < -1000
  · exact back_o3 l line col_ half h300 (by omega) (by omega) o3 w
  by_cases o4 : 1000 < col_
  · exact back_o4 l line col_ half h300 (by omega) (by omega) o4 w
  by_cases hv : ∃ vs, V l vs
  · obtain ⟨vs, hv⟩ := hv
    cases half
    · by_cases k1 : line < 0
      · exact back_low l line col_ hv h3i (by omega) (by omega) (by omega) (by omega) k1 w
      by_cases k2 : (lst vs : Int) < line
      · exact back_high l line col_ hv h3i (by omega) (by omega) (by omega) (by omega) k2 w
      obtain ⟨k, rfl⟩ : ∃ k : Nat, line = (k : Int) := ⟨line.toNat, by omega⟩
      by_cases k3 : col_ < 0
      · exact back_left l k col_ hv h3i (by omega) (by omega) (by omega) (by omega) (by omega) k3 w
      obtain ⟨c, rfl⟩ : ∃ c : Nat, col_ = (c : Int) := ⟨col_.toNat, by omega⟩
      by_cases k4 : wdt vs k < c
      · exact back_right l k c hv h3i (by omega) (by omega) (by omega) (by omega) (by omega) k4 w
      · exact back_in l k c hv h3i (by omega) (by omega) (by omega) (by omega) (by omega) (by omega) w
    · exact back_half l line col_ hv h3i (by omega) (by omega) (by omega) (by omega) w
  · exact back_none l line col_ half hv hb h300 (by omega) (by omega) (by omega) (by omega) w
end Go.Proofs.Ytgenphpaidanhaa
