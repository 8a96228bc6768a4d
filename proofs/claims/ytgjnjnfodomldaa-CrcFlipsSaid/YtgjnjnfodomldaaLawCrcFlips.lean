/- The walk of the law CrcFlips: whatever bytes, ints and number it is called with, it answers true; what was there stays as it was. Condition: no slice is longer than memory. -/
import Derived.Test.YtgjnjnfodomldaaCrcAwake
import Derived.Test.YtgjnjnfodomldaaAlike
import Derived.StillTailTactics
namespace Go.Proofs.Ytgjnjnfodomldaa
open Go.RowKit Go.Deep

/-- Reads that are taken in the order of the text, and a last operation: 'wp_region_still_tail', the world said as the walk says it. -/
theorem wp_region_last {P : Program} {id : Nat} {Q : Exit → Act → World → Prop} {a : Act} {w : World} {l : List Oper} (n : Nat) (hm : P.follows .mixedOrders = true) (hB : Region.lexTailB .any l.toArray n = true)
    (h : wpStill P l.toArray w.drew (fun a' => wpList P l.toArray Q (l.drop n) a' w.drew) (l.take n) a) : (Code.region id l.toArray true).wp P Q a w := wp_region_still_tail n hm hB h
theorem wrap_nat (n : Nat) (h : n < 9223372036854775808) : IntKind.i64.wrap (n : Int) = (n : Int) := by rw [IntKind.wrap_i64]; omega
theorem wrap_div8 (n m : Nat) (h : n < 9223372036854775808) (e : n / 8 = m) : IntKind.i64.wrap ((n : Int) / 8) = (m : Int) := by
  rw [show (n : Int) / 8 = (m : Int) by omega]; exact wrap_nat _ (by omega)
theorem wrap_mod8 (n m : Nat) (e : n % 8 = m) : IntKind.i64.wrap ((n : Int) % 8) = (m : Int) := by
  rw [show (n : Int) % 8 = (m : Int) by omega]; exact wrap_nat _ (by omega)

theorem bxor8 (a b : Nat) (ha : a < 256) (hb : b < 256) : bits BinOp.xor IntKind.u8 (a : Int) (b : Int) = ((a ^^^ b : Nat) : Int) := by
  have h1 : (BitVec.ofInt 8 (a : Int)).toNat = a := by rw [BitVec.ofInt_natCast, BitVec.toNat_ofNat]; omega
  have h2 : (BitVec.ofInt 8 (b : Int)).toNat = b := by rw [BitVec.ofInt_natCast, BitVec.toNat_ofNat]; omega
  show IntKind.u8.wrap ((BitVec.ofInt 8 (a : Int) ^^^ BitVec.ofInt 8 (b : Int)).toNat : Int) = _
  have h3 : a ^^^ b < 256 := Nat.xor_lt_two_pow (n := 8) ha hb
  rw [BitVec.toNat_xor, h1, h2]
  generalize a ^^^ b = x at h3
  unfold IntKind.wrap
  simp [IntKind.bits, IntKind.signed]
  omega
theorem wrap_pow (j : Nat) (h : j < 8) : IntKind.u8.wrap ((2 : Int) ^ j) = ((2 ^ j : Nat) : Int) := by
  have h2 : 2 ^ j < 256 := Nat.pow_lt_pow_right (a := 2) (n := 8) (by omega) h
  have e : (2 : Int) ^ j = ((2 ^ j : Nat) : Int) := by simp
  rw [e]
  generalize 2 ^ j = x at h2
  unfold IntKind.wrap
  simp [IntKind.bits, IntKind.signed]
  omega
theorem wrap_shr (x S : Nat) : IntKind.u8.wrap ((x : Int) / 2 ^ S) = ((x / 2 ^ S % 256 : Nat) : Int) := by
  have e : (x : Int) / 2 ^ S = ((x / 2 ^ S : Nat) : Int) := by simp
  rw [e]
  generalize x / 2 ^ S = y
  unfold IntKind.wrap
  simp [IntKind.bits, IntKind.signed]
theorem over_step (l : List Nat) (j x q M S : Nat) (h1 : j + q = M) (h2 : 8 * q = S) : (over l j x q).set M ((over l j x q).getD M 0 ^^^ (x / 2 ^ S % 256)) = over l j x (q + 1) := by subst h1 h2; rfl
theorem u8s_set (l : List Nat) (j z : Nat) : u8s (l.set j z) = (u8s l).set j (.int .u8 (z : Int)) := by rw [u8s, u8s, List.map_set]
/-- A byte of a row of the call's own. -/
theorem own_byte {w : World} {base g n c : Nat} {l : List Nat} (h : w.ownsRow base 5 1 (.slice (some ⟨g, 0, none⟩) n c) n (u8s l)) (hn : n = l.length) (j : Nat) (hj : j < l.length) : w.cell? ⟨g, j, none⟩ = some (.int .u8 ((l.getD j 0 : Nat) : Int)) := by
  rw [h.cellAt j (by omega), u8s, List.getElem?_map, List.getD_eq_getElem?_getD, List.getElem?_eq_getElem hj]
  rfl
theorem flip_def (l : List Nat) (i I J : Nat) (h1 : i / 8 = I) (h2 : i % 8 = J) : l.set I (l.getD I 0 ^^^ 2 ^ J) = flip l i := by subst h1 h2; rfl
theorem getD_byte {l : List Nat} (h : ∀ x ∈ l, x < 256) (j : Nat) (hj : j < l.length) : l.getD j 0 < 256 := by
  rw [List.getD_eq_getElem?_getD, List.getElem?_eq_getElem hj]
  exact h _ (List.getElem_mem hj)

theorem crcFlips_no (A : Option Addr) (n c : Nat) (i k : Int) (x : Nat) (hh : n < 4 ∨ (4 ≤ n ∧ 500 < n)) (w : World) :
    Calls Try.prog 4 #[.slice A n c, .int .i64 i, .int .i64 k, .int .u32 (x : Int)] w fun e w' => e = .returned (.bool true) ∧ Below w.heap.size w w' := by
  rcases hh with h | ⟨h, h2⟩
  all_goals
    go_enter Try.func4, Try.ntmps4
    go_wp2_with fail
    refine (crcAwake_any _).mono ?_
    rintro e w2 ⟨rfl, hb2⟩
    go_wp2
    go_ret
    exact ⟨rfl, hb2⟩

/-- What the loop of CrcFlips holds behind q bytes. -/
def OverRel (w : World) (g n c : Nat) (l : List Nat) (j x q : Nat) (wr : World) : Prop :=
  wr.ownsRow w.heap.size 5 1 (.slice (some ⟨g, 0, none⟩) n c) n (u8s (over l j x q)) ∧ Below w.heap.size w wr

set_option maxRecDepth 100000 in
set_option maxHeartbeats 4000000 in
theorem crcFlips_yes (A : Option Addr) (l : List Nat) (c : Nat) (at_ to_ : Int) (x : Nat) (hx : x < 4294967296) (hl4 : 4 ≤ l.length) (hl : l.length ≤ 500) (hlb : ∀ x ∈ l, x < 256) (w : World) (hA : BytesAt w A l) :
    Calls Try.prog 4 #[.slice A l.length c, .int .i64 at_, .int .i64 to_, .int .u32 (x : Int)] w fun e w' => e = .returned (.bool true) ∧ Below w.heap.size w w' := by
  have HAA := Lib.hid hA; clear hA
  have HLB := Lib.hid hlb; clear hlb
  obtain ⟨i, HI⟩ : ∃ i, Hid (rnd at_ (8 * l.length) = i) := ⟨_, rfl⟩
  obtain ⟨k, HK⟩ : ∃ k, Hid (rnd to_ (8 * l.length) = k) := ⟨_, rfl⟩
  have hi : i < 8 * l.length := by have := rnd_lt at_ (show 0 < 8 * l.length by omega); have := HI.out; omega
  have hk : k < 8 * l.length := by have := rnd_lt to_ (show 0 < 8 * l.length by omega); have := HK.out; omega
  have HRI := Lib.hid (fun w => alikeRound_any at_ (8 * l.length) (by omega) (by omega) w)
  have HRK := Lib.hid (fun w => alikeRound_any to_ (8 * l.length) (by omega) (by omega) w)
  obtain ⟨j, HJ⟩ : ∃ j, Hid (rnd at_ (l.length - 3) = j) := ⟨_, rfl⟩
  have hj : j + 4 ≤ l.length := by have := rnd_lt at_ (show 0 < l.length - 3 by omega); have := HJ.out; omega
  have HRJ := Lib.hid (fun w => alikeRound_any at_ (l.length - 3) (by omega) (by omega) w)
  rw [HJ.out, show ((l.length - 3 : Nat) : Int) = (l.length : Int) - 3 by omega] at HRJ
  rw [HI.out] at HRI
  rw [HK.out] at HRK
  go_enter Try.func4, Try.ntmps4
  go_wp2_with (at_builtin
               refine wpList_append_bytes rfl (.tmp 24) (.tmp 25) rfl w.heap.size (.slice (some ⟨w.heap.size, 0, none⟩) 0 0) 0 [] rfl (World.ownsRow_lit w #[] 0 (Nat.le_refl _) (by simp [maxLen]) rfl) A l c rfl (HAA.out.alloc _) (by omega) (by simp) ?_
               intro v1 w1 hap1
               have hb1 := hap1.below (balloc (Below.refl _ _) _) (by simp) (fun k hk => by simp [Value.ownBlock] at hk; omega)
               have HO1 := Lib.hid hap1.1; have HBEL1 := Lib.hid hb1.1; have HV1 := Lib.hid hb1.2; clear hap1 hb1)
  refine (HRI.out _).mono ?_
  rintro e w' ⟨rfl, rfl⟩
  go_wp2_with fail
  refine (HRK.out _).mono ?_
  rintro e w' ⟨rfl, rfl⟩
  have hown := HO1.out
  rw [List.nil_append, Nat.zero_add] at hown
  obtain ⟨g1, c1, hv1, hg1, hlt1⟩ := hown.form (by omega)
  subst hv1
  have HOWN1 := Lib.hid hown
  have HG1 := Lib.hid hg1
  clear hown hg1 hlt1
  obtain ⟨I, HII⟩ : ∃ I, Hid (i / 8 = I) := ⟨i / 8, Lib.hid rfl⟩
  obtain ⟨J, HJJ⟩ : ∃ J, Hid (i % 8 = J) := ⟨i % 8, Lib.hid rfl⟩
  have hI : I < l.length := by have := HII.out; omega
  have hJ : J < 8 := by have := HJJ.out; omega
  have hq := wrap_div8 i I (by omega) HII.out
  have hr : (i : Int).tmod 8 = (J : Int) := by rw [show (i : Int).tmod 8 = ((i % 8 : Nat) : Int) from rfl, HJJ.out]
  have hfr : w1.drew.frozen? ⟨g1, I, none⟩ = false := HOWN1.out.frozenAt I
  have hcell : w1.drew.cell? ⟨g1, I, none⟩ = some (.int .u8 ((l.getD I 0 : Nat) : Int)) := own_byte HOWN1.out rfl I (hI)
  have hyl : l.getD I 0 < 256 := getD_byte HLB.out I (hI)
  have hp := wrap_pow J hJ
  have hpl : 2 ^ J < 256 := Nat.pow_lt_pow_right (a := 2) (n := 8) (by omega) hJ
  have HFE : Hid (l.set I (l.getD I 0 ^^^ 2 ^ J) = flip l i) := flip_def l i I J HII.out HJJ.out
  have hst0 := (HOWN1.out.stored I (.int .u8 ((l.getD I 0 ^^^ 2 ^ J : Nat) : Int))).1
  have hbs := (HBEL1.out.drew).setCell (p := ⟨g1, I, none⟩) HG1.out (.int .u8 ((l.getD I 0 ^^^ 2 ^ J : Nat) : Int))
  have hst : (w1.drew.setCell ⟨g1, I, none⟩ (.int .u8 ((l.getD I 0 ^^^ 2 ^ J : Nat) : Int))).ownsRow w.heap.size 5 1 (.slice (some ⟨g1, 0, none⟩) l.length c1) l.length (u8s (flip l i)) := by rw [← HFE.out, u8s_set]; exact hst0
  clear hst0
  generalize 2 ^ J = P at hp hpl hst hbs
  generalize l.getD I 0 = y at hcell hyl hst hbs
  have hx := bxor8 y P hyl hpl
  generalize y ^^^ P = z at hx hst hbs
  have HST := Lib.hid hst; have HBS := Lib.hid hbs
  clear hst hbs HFE hyl hpl HJJ
  go_wp2_with fail
  refine wp_region_last 13 (by kernel_rfl) (by kernel_rfl) ?_
  generalize w1.drew = wd at hcell hfr HST HBS ⊢
  simp only [List.take_succ_cons, List.take_zero, List.drop_succ_cons, List.drop_zero]
  repeat still_step
  refine wpStill_nil ?_
  refine wpList_plain rfl (fun K hK => ?_)
  go_simp
  refine hK _ _ ?_
  clear hK K
  clear hq hr hcell hfr hp hx hJ
  generalize wd.setCell ⟨g1, I, none⟩ (.int .u8 (z : Int)) = w2 at HST HBS ⊢
  have HOWN2 := HST; have HBEL2 := HBS
  clear HST HBS hI HII
  by_cases hik : i = k
  · subst hik
    have HNE := Lib.hid (sm_flip HLB.out i hi)
    have HFL : Hid ((flip l i).length = l.length) := flip_length l i
    have HFB := Lib.hid (flip_bytes HLB.out i)
    generalize flip l i = F at HOWN2 HNE HFL HFB
    go_wp2_with (at_builtin
                 refine wpList_append_bytes rfl (.tmp 66) (.tmp 67) rfl w2.heap.size (.slice (some ⟨w2.heap.size, 0, none⟩) 0 0) 0 [] rfl (World.ownsRow_lit w2 #[] 0 (Nat.le_refl _) (by simp [maxLen]) rfl) A l c rfl ((HAA.out.below HBEL2.out).alloc _) (by omega) (by simp) ?_
                 intro v5 w5 hap5
                 have hb5 := hap5.below (balloc (Below.refl _ _) _) (by simp) (fun k hk => by simp [Value.ownBlock] at hk; omega)
                 have HO5 := Lib.hid hap5.1; have HUP5 := Lib.hid hb5.1; clear hap5 hb5)
    refine (HRJ.out _).mono ?_
    rintro e w' ⟨rfl, rfl⟩
    have hown := HO5.out
    rw [List.nil_append, Nat.zero_add] at hown
    obtain ⟨g5, c5, hv5, hg5, hlt5⟩ := hown.form (by omega)
    subst hv5
    have HOWN5 := Lib.hid hown
    have HG5 := Lib.hid hg5
    clear hown hg5 hlt5 HO5
    go_wp2_with fail
    go_loopw [14] (fun t wr => ∃ q : Nat, q ≤ 4 ∧ t = .int .i64 q ∧ OverRel w2 g5 l.length c5 l j x q wr) (fun t _ => 4 - (intOf t).toNat)
    case atStart => exact ⟨0, by omega, rfl, HOWN5.out, HUP5.out⟩
    case round =>
      obtain ⟨q, hq4, rfl, ho, hb⟩ := hrel
      have HOWN6 := Lib.hid ho; have HUP6 := Lib.hid hb; clear ho hb
      by_cases hlt : q < 4
      · obtain ⟨M, HM⟩ : ∃ M, Hid (j + q = M) := ⟨_, rfl⟩
        obtain ⟨S, HS⟩ : ∃ S, Hid (8 * q = S) := ⟨_, rfl⟩
        have hM : M < l.length := by have := HM.out; omega
        have hS : S < 32 := by have := HS.out; omega
        have hm : IntKind.i64.wrap ((j : Int) + (q : Int)) = (M : Int) := by rw [show (j : Int) + (q : Int) = (M : Int) by have := HM.out; omega]; exact wrap_nat _ (by omega)
        have hs : IntKind.i64.wrap (8 * (q : Int)) = (S : Int) := by rw [show 8 * (q : Int) = (S : Int) by have := HS.out; omega]; exact wrap_nat _ (by omega)
        have HOL : Hid ((over l j x q).length = l.length) := over_length l j x q
        have hfr : wr.drew.frozen? ⟨g5, M, none⟩ = false := HOWN6.out.frozenAt M
        have hcell : wr.drew.cell? ⟨g5, M, none⟩ = some (.int .u8 (((over l j x q).getD M 0 : Nat) : Int)) := own_byte HOWN6.out HOL.out.symm M (by rw [HOL.out]; exact hM)
        have hyl : (over l j x q).getD M 0 < 256 := getD_byte (over_bytes HLB.out j x q) M (by rw [HOL.out]; exact hM)
        have hv := wrap_shr x S
        have hvl : x / 2 ^ S % 256 < 256 := Nat.mod_lt _ (by omega)
        have hst0 := (HOWN6.out.stored M (.int .u8 (((over l j x q).getD M 0 ^^^ (x / 2 ^ S % 256) : Nat) : Int))).1
        have hst : (wr.drew.setCell ⟨g5, M, none⟩ (.int .u8 (((over l j x q).getD M 0 ^^^ (x / 2 ^ S % 256) : Nat) : Int))).ownsRow w2.heap.size 5 1 (.slice (some ⟨g5, 0, none⟩) l.length c5) l.length (u8s (over l j x (q + 1))) := by rw [← over_step l j x q M S HM.out HS.out, u8s_set]; exact hst0
        have hbs := (HUP6.out.drew).setCell (p := ⟨g5, M, none⟩) HG5.out (.int .u8 (((over l j x q).getD M 0 ^^^ (x / 2 ^ S % 256) : Nat) : Int))
        clear hst0
        generalize x / 2 ^ S % 256 = V at hv hvl hst hbs
        generalize (over l j x q).getD M 0 = y2 at hcell hyl hst hbs
        have hx2 := bxor8 y2 V hyl hvl
        generalize y2 ^^^ V = z2 at hx2 hst hbs
        have HST := Lib.hid hst; have HBS := Lib.hid hbs
        clear hst hbs hyl hvl
        go_wp2_with fail
        refine wp_region_last 17 (by kernel_rfl) (by kernel_rfl) ?_
        generalize wr.drew = wd at hcell hfr HST HBS ⊢
        simp only [List.take_succ_cons, List.take_zero, List.drop_succ_cons, List.drop_zero]
        repeat still_step
        refine wpStill_nil ?_
        refine wpList_plain rfl (fun K hK => ?_)
        go_simp
        refine hK _ _ ?_
        clear hK K
        clear hm hs hcell hfr hv hx2
        generalize wd.setCell ⟨g5, M, none⟩ (.int .u8 (z2 : Int)) = wn at HST HBS ⊢
        go_wp2_with fail
        go_roundw
        case rel => exact ⟨q + 1, by omega, by go_num, HST.out, HBS.out⟩
        case measure => simp [intOf]; omega
      · obtain rfl : q = 4 := by omega
        have HATC := Lib.hid ((BytesAt.of_own HOWN2.out HFL.out.symm).below HUP6.out)
        have HOL : Hid ((over l j x 4).length = l.length) := over_length l j x 4
        have HATD := Lib.hid (BytesAt.of_own HOWN6.out HOL.out.symm)
        have HBELR := Lib.hid (bstep HBEL2.out HUP6.out)
        have HOB := Lib.hid (over_bytes HLB.out j x 4)
        have HIFF := Lib.hid (sm_over HLB.out j x hj hx)
        generalize over l j x 4 = D at HATD HOB HOL HIFF
        have GC := Lib.hid (fun w (h : BytesAt w (some ⟨g1, 0, none⟩) F) t g hg => crcSum_one c1 1 (by have := HFL.out; simp only [maxLen]; omega) HFB.out w h t g hg)
        have GD := Lib.hid (fun w (h : BytesAt w (some ⟨g5, 0, none⟩) D) t g hg => crcSum_one c5 1 (by have := HOL.out; simp only [maxLen]; omega) HOB.out w h t g hg)
        have GB := Lib.hid (fun w (h : BytesAt w A l) t g hg => crcSum_one c 1 (by simp only [maxLen]; omega) HLB.out w h t g hg)
        rw [HFL.out] at GC
        rw [HOL.out] at GD
        obtain ⟨y9, HY9⟩ : ∃ y9, Hid (sm l = y9) := ⟨_, rfl⟩
        obtain ⟨f9, HF9⟩ : ∃ f9, Hid (sm F = f9) := ⟨_, rfl⟩
        obtain ⟨d9, HD9⟩ : ∃ d9, Hid (sm D = d9) := ⟨_, rfl⟩
        rw [HY9.out] at GB HNE HIFF
        rw [HF9.out] at GC HNE
        rw [HD9.out] at GD HIFF
        have hne : ((f9 : Int) == (y9 : Int)) = false := beq_eq_false_iff_ne.2 (by have := HNE.out; omega)
        have hne2 : ((f9 : Int) != (y9 : Int)) = true := bne_iff_ne.2 (by have := HNE.out; omega)
        go_wp2_with fail
        refine (GC.out _ HATC.out _ _ ?_).mono ?_
        · simp
        rintro e w' ⟨rfl, rfl⟩
        have HA1 := Lib.hid (balloc HBELR.out (.cells #[.slice (some ⟨g1, 0, none⟩) l.length c1] 24))
        have HD1 := Lib.hid (HATD.out.alloc (.cells #[.slice (some ⟨g1, 0, none⟩) l.length c1] 24))
        generalize wr.alloc (.cells #[.slice (some ⟨g1, 0, none⟩) l.length c1] 24) = wa at HA1 HD1 ⊢
        go_wp2_with fail
        refine (GB.out _ (HAA.out.below HA1.out) _ _ ?_).mono ?_
        · simp
        rintro e w' ⟨rfl, rfl⟩
        have HA2 := Lib.hid (balloc HA1.out (.cells #[.slice A l.length c] 24))
        have HD2 := Lib.hid (HD1.out.alloc (.cells #[.slice A l.length c] 24))
        generalize wa.alloc (.cells #[.slice A l.length c] 24) = wb at HA2 HD2 ⊢
        go_wp2_with fail
        refine (GD.out _ HD2.out _ _ ?_).mono ?_
        · simp
        rintro e w' ⟨rfl, rfl⟩
        have HA3 := Lib.hid (balloc HA2.out (.cells #[.slice (some ⟨g5, 0, none⟩) l.length c5] 24))
        generalize wb.alloc (.cells #[.slice (some ⟨g5, 0, none⟩) l.length c5] 24) = wc at HA3 ⊢
        go_wp2_with fail
        refine (GB.out _ (HAA.out.below HA3.out) _ _ ?_).mono ?_
        · simp
        rintro e w' ⟨rfl, rfl⟩
        have HA4 := Lib.hid (balloc HA3.out (.cells #[.slice A l.length c] 24))
        generalize wc.alloc (.cells #[.slice A l.length c] 24) = wd2 at HA4 ⊢
        clear hne hne2
        by_cases hx0 : x = 0
        · have h1 : ((d9 : Int) == (y9 : Int)) = true := by rw [HIFF.out.2 hx0]; exact beq_self_eq_true _
          have h2 : ((x : Int) == 0) = true := by rw [hx0]; rfl
          clear hx0
          go_wp2_with fail
          refine (crcAwake_any _).mono ?_
          rintro e w4 ⟨rfl, hb4⟩
          have HB4 := Lib.hid hb4; clear hb4
          go_wp2
          go_ret
          exact ⟨rfl, bstep HA4.out HB4.out⟩
        · have h1 : ((d9 : Int) == (y9 : Int)) = false := beq_eq_false_iff_ne.2 (fun e => hx0 (HIFF.out.1 (by omega)))
          have h2 : ((x : Int) == 0) = false := beq_eq_false_iff_ne.2 (by omega)
          clear hx0
          go_wp2_with fail
          refine (crcAwake_any _).mono ?_
          rintro e w4 ⟨rfl, hb4⟩
          have HB4 := Lib.hid hb4; clear hb4
          go_wp2
          go_ret
          exact ⟨rfl, bstep HA4.out HB4.out⟩
  · have hik1 : ((i : Int) == (k : Int)) = false := beq_eq_false_iff_ne.2 (by omega)
    go_wp2_with fail
    clear hik1
    obtain ⟨I, HII⟩ : ∃ I, Hid (k / 8 = I) := ⟨k / 8, Lib.hid rfl⟩
    obtain ⟨J, HJJ⟩ : ∃ J, Hid (k % 8 = J) := ⟨k % 8, Lib.hid rfl⟩
    have hI : I < l.length := by have := HII.out; omega
    have hJ : J < 8 := by have := HJJ.out; omega
    have hq := wrap_div8 k I (by omega) HII.out
    have hr : (k : Int).tmod 8 = (J : Int) := by rw [show (k : Int).tmod 8 = ((k % 8 : Nat) : Int) from rfl, HJJ.out]
    have hfr : w2.drew.frozen? ⟨g1, I, none⟩ = false := HOWN2.out.frozenAt I
    have hcell : w2.drew.cell? ⟨g1, I, none⟩ = some (.int .u8 (((flip l i).getD I 0 : Nat) : Int)) := own_byte HOWN2.out (flip_length l i).symm I (by rw [flip_length]; exact hI)
    have hyl : (flip l i).getD I 0 < 256 := getD_byte (flip_bytes HLB.out i) I (by rw [flip_length]; exact hI)
    have hp := wrap_pow J hJ
    have hpl : 2 ^ J < 256 := Nat.pow_lt_pow_right (a := 2) (n := 8) (by omega) hJ
    have HFE : Hid ((flip l i).set I ((flip l i).getD I 0 ^^^ 2 ^ J) = flip (flip l i) k) := flip_def (flip l i) k I J HII.out HJJ.out
    have hst0 := (HOWN2.out.stored I (.int .u8 (((flip l i).getD I 0 ^^^ 2 ^ J : Nat) : Int))).1
    have hbs := (HBEL2.out.drew).setCell (p := ⟨g1, I, none⟩) HG1.out (.int .u8 (((flip l i).getD I 0 ^^^ 2 ^ J : Nat) : Int))
    have hst : (w2.drew.setCell ⟨g1, I, none⟩ (.int .u8 (((flip l i).getD I 0 ^^^ 2 ^ J : Nat) : Int))).ownsRow w.heap.size 5 1 (.slice (some ⟨g1, 0, none⟩) l.length c1) l.length (u8s (flip (flip l i) k)) := by rw [← HFE.out, u8s_set]; exact hst0
    clear hst0
    generalize 2 ^ J = P at hp hpl hst hbs
    generalize (flip l i).getD I 0 = y at hcell hyl hst hbs
    have hx := bxor8 y P hyl hpl
    generalize y ^^^ P = z at hx hst hbs
    have HST := Lib.hid hst; have HBS := Lib.hid hbs
    clear hst hbs HFE hyl hpl HJJ
    go_wp2_with fail
    refine wp_region_last 13 (by kernel_rfl) (by kernel_rfl) ?_
    generalize w2.drew = wd at hcell hfr HST HBS ⊢
    simp only [List.take_succ_cons, List.take_zero, List.drop_succ_cons, List.drop_zero]
    repeat still_step
    refine wpStill_nil ?_
    refine wpList_plain rfl (fun K hK => ?_)
    go_simp
    refine hK _ _ ?_
    clear hK K
    clear hq hr hcell hfr hp hx hJ
    generalize wd.setCell ⟨g1, I, none⟩ (.int .u8 (z : Int)) = w3 at HST HBS ⊢
    have HOWN3 := HST; have HBEL3 := HBS
    clear HST HBS hI HII
    have HNE := Lib.hid (sm_flip2 HLB.out i k hi hk hl hik)
    have HFL : Hid ((flip (flip l i) k).length = l.length) := by show (flip (flip l i) k).length = l.length; rw [flip_length, flip_length]
    have HFB := Lib.hid (flip_bytes (flip_bytes HLB.out i) k)
    generalize flip (flip l i) k = F at HOWN3 HNE HFL HFB
    go_wp2_with (at_builtin
                 refine wpList_append_bytes rfl (.tmp 66) (.tmp 67) rfl w3.heap.size (.slice (some ⟨w3.heap.size, 0, none⟩) 0 0) 0 [] rfl (World.ownsRow_lit w3 #[] 0 (Nat.le_refl _) (by simp [maxLen]) rfl) A l c rfl ((HAA.out.below HBEL3.out).alloc _) (by omega) (by simp) ?_
                 intro v5 w5 hap5
                 have hb5 := hap5.below (balloc (Below.refl _ _) _) (by simp) (fun k hk => by simp [Value.ownBlock] at hk; omega)
                 have HO5 := Lib.hid hap5.1; have HUP5 := Lib.hid hb5.1; clear hap5 hb5)
    refine (HRJ.out _).mono ?_
    rintro e w' ⟨rfl, rfl⟩
    have hown := HO5.out
    rw [List.nil_append, Nat.zero_add] at hown
    obtain ⟨g5, c5, hv5, hg5, hlt5⟩ := hown.form (by omega)
    subst hv5
    have HOWN5 := Lib.hid hown
    have HG5 := Lib.hid hg5
    clear hown hg5 hlt5 HO5
    go_wp2_with fail
    go_loopw [14] (fun t wr => ∃ q : Nat, q ≤ 4 ∧ t = .int .i64 q ∧ OverRel w3 g5 l.length c5 l j x q wr) (fun t _ => 4 - (intOf t).toNat)
    case atStart => exact ⟨0, by omega, rfl, HOWN5.out, HUP5.out⟩
    case round =>
      obtain ⟨q, hq4, rfl, ho, hb⟩ := hrel
      have HOWN6 := Lib.hid ho; have HUP6 := Lib.hid hb; clear ho hb
      by_cases hlt : q < 4
      · obtain ⟨M, HM⟩ : ∃ M, Hid (j + q = M) := ⟨_, rfl⟩
        obtain ⟨S, HS⟩ : ∃ S, Hid (8 * q = S) := ⟨_, rfl⟩
        have hM : M < l.length := by have := HM.out; omega
        have hS : S < 32 := by have := HS.out; omega
        have hm : IntKind.i64.wrap ((j : Int) + (q : Int)) = (M : Int) := by rw [show (j : Int) + (q : Int) = (M : Int) by have := HM.out; omega]; exact wrap_nat _ (by omega)
        have hs : IntKind.i64.wrap (8 * (q : Int)) = (S : Int) := by rw [show 8 * (q : Int) = (S : Int) by have := HS.out; omega]; exact wrap_nat _ (by omega)
        have HOL : Hid ((over l j x q).length = l.length) := over_length l j x q
        have hfr : wr.drew.frozen? ⟨g5, M, none⟩ = false := HOWN6.out.frozenAt M
        have hcell : wr.drew.cell? ⟨g5, M, none⟩ = some (.int .u8 (((over l j x q).getD M 0 : Nat) : Int)) := own_byte HOWN6.out HOL.out.symm M (by rw [HOL.out]; exact hM)
        have hyl : (over l j x q).getD M 0 < 256 := getD_byte (over_bytes HLB.out j x q) M (by rw [HOL.out]; exact hM)
        have hv := wrap_shr x S
        have hvl : x / 2 ^ S % 256 < 256 := Nat.mod_lt _ (by omega)
        have hst0 := (HOWN6.out.stored M (.int .u8 (((over l j x q).getD M 0 ^^^ (x / 2 ^ S % 256) : Nat) : Int))).1
        have hst : (wr.drew.setCell ⟨g5, M, none⟩ (.int .u8 (((over l j x q).getD M 0 ^^^ (x / 2 ^ S % 256) : Nat) : Int))).ownsRow w3.heap.size 5 1 (.slice (some ⟨g5, 0, none⟩) l.length c5) l.length (u8s (over l j x (q + 1))) := by rw [← over_step l j x q M S HM.out HS.out, u8s_set]; exact hst0
        have hbs := (HUP6.out.drew).setCell (p := ⟨g5, M, none⟩) HG5.out (.int .u8 (((over l j x q).getD M 0 ^^^ (x / 2 ^ S % 256) : Nat) : Int))
        clear hst0
        generalize x / 2 ^ S % 256 = V at hv hvl hst hbs
        generalize (over l j x q).getD M 0 = y2 at hcell hyl hst hbs
        have hx2 := bxor8 y2 V hyl hvl
        generalize y2 ^^^ V = z2 at hx2 hst hbs
        have HST := Lib.hid hst; have HBS := Lib.hid hbs
        clear hst hbs hyl hvl
        go_wp2_with fail
        refine wp_region_last 17 (by kernel_rfl) (by kernel_rfl) ?_
        generalize wr.drew = wd at hcell hfr HST HBS ⊢
        simp only [List.take_succ_cons, List.take_zero, List.drop_succ_cons, List.drop_zero]
        repeat still_step
        refine wpStill_nil ?_
        refine wpList_plain rfl (fun K hK => ?_)
        go_simp
        refine hK _ _ ?_
        clear hK K
        clear hm hs hcell hfr hv hx2
        generalize wd.setCell ⟨g5, M, none⟩ (.int .u8 (z2 : Int)) = wn at HST HBS ⊢
        go_wp2_with fail
        go_roundw
        case rel => exact ⟨q + 1, by omega, by go_num, HST.out, HBS.out⟩
        case measure => simp [intOf]; omega
      · obtain rfl : q = 4 := by omega
        have HATC := Lib.hid ((BytesAt.of_own HOWN3.out HFL.out.symm).below HUP6.out)
        have HOL : Hid ((over l j x 4).length = l.length) := over_length l j x 4
        have HATD := Lib.hid (BytesAt.of_own HOWN6.out HOL.out.symm)
        have HBELR := Lib.hid (bstep HBEL3.out HUP6.out)
        have HOB := Lib.hid (over_bytes HLB.out j x 4)
        have HIFF := Lib.hid (sm_over HLB.out j x hj hx)
        generalize over l j x 4 = D at HATD HOB HOL HIFF
        have GC := Lib.hid (fun w (h : BytesAt w (some ⟨g1, 0, none⟩) F) t g hg => crcSum_one c1 1 (by have := HFL.out; simp only [maxLen]; omega) HFB.out w h t g hg)
        have GD := Lib.hid (fun w (h : BytesAt w (some ⟨g5, 0, none⟩) D) t g hg => crcSum_one c5 1 (by have := HOL.out; simp only [maxLen]; omega) HOB.out w h t g hg)
        have GB := Lib.hid (fun w (h : BytesAt w A l) t g hg => crcSum_one c 1 (by simp only [maxLen]; omega) HLB.out w h t g hg)
        rw [HFL.out] at GC
        rw [HOL.out] at GD
        obtain ⟨y9, HY9⟩ : ∃ y9, Hid (sm l = y9) := ⟨_, rfl⟩
        obtain ⟨f9, HF9⟩ : ∃ f9, Hid (sm F = f9) := ⟨_, rfl⟩
        obtain ⟨d9, HD9⟩ : ∃ d9, Hid (sm D = d9) := ⟨_, rfl⟩
        rw [HY9.out] at GB HNE HIFF
        rw [HF9.out] at GC HNE
        rw [HD9.out] at GD HIFF
        have hne : ((f9 : Int) == (y9 : Int)) = false := beq_eq_false_iff_ne.2 (by have := HNE.out; omega)
        have hne2 : ((f9 : Int) != (y9 : Int)) = true := bne_iff_ne.2 (by have := HNE.out; omega)
        go_wp2_with fail
        refine (GC.out _ HATC.out _ _ ?_).mono ?_
        · simp
        rintro e w' ⟨rfl, rfl⟩
        have HA1 := Lib.hid (balloc HBELR.out (.cells #[.slice (some ⟨g1, 0, none⟩) l.length c1] 24))
        have HD1 := Lib.hid (HATD.out.alloc (.cells #[.slice (some ⟨g1, 0, none⟩) l.length c1] 24))
        generalize wr.alloc (.cells #[.slice (some ⟨g1, 0, none⟩) l.length c1] 24) = wa at HA1 HD1 ⊢
        go_wp2_with fail
        refine (GB.out _ (HAA.out.below HA1.out) _ _ ?_).mono ?_
        · simp
        rintro e w' ⟨rfl, rfl⟩
        have HA2 := Lib.hid (balloc HA1.out (.cells #[.slice A l.length c] 24))
        have HD2 := Lib.hid (HD1.out.alloc (.cells #[.slice A l.length c] 24))
        generalize wa.alloc (.cells #[.slice A l.length c] 24) = wb at HA2 HD2 ⊢
        go_wp2_with fail
        refine (GD.out _ HD2.out _ _ ?_).mono ?_
        · simp
        rintro e w' ⟨rfl, rfl⟩
        have HA3 := Lib.hid (balloc HA2.out (.cells #[.slice (some ⟨g5, 0, none⟩) l.length c5] 24))
        generalize wb.alloc (.cells #[.slice (some ⟨g5, 0, none⟩) l.length c5] 24) = wc at HA3 ⊢
        go_wp2_with fail
        refine (GB.out _ (HAA.out.below HA3.out) _ _ ?_).mono ?_
        · simp
        rintro e w' ⟨rfl, rfl⟩
        have HA4 := Lib.hid (balloc HA3.out (.cells #[.slice A l.length c] 24))
        generalize wc.alloc (.cells #[.slice A l.length c] 24) = wd2 at HA4 ⊢
        clear hne hne2
        by_cases hx0 : x = 0
        · have h1 : ((d9 : Int) == (y9 : Int)) = true := by rw [HIFF.out.2 hx0]; exact beq_self_eq_true _
          have h2 : ((x : Int) == 0) = true := by rw [hx0]; rfl
          clear hx0
          go_wp2_with fail
          refine (crcAwake_any _).mono ?_
          rintro e w4 ⟨rfl, hb4⟩
          have HB4 := Lib.hid hb4; clear hb4
          go_wp2
          go_ret
          exact ⟨rfl, bstep HA4.out HB4.out⟩
        · have h1 : ((d9 : Int) == (y9 : Int)) = false := beq_eq_false_iff_ne.2 (fun e => hx0 (HIFF.out.1 (by omega)))
          have h2 : ((x : Int) == 0) = false := beq_eq_false_iff_ne.2 (by omega)
          clear hx0
          go_wp2_with fail
          refine (crcAwake_any _).mono ?_
          rintro e w4 ⟨rfl, hb4⟩
          have HB4 := Lib.hid hb4; clear hb4
          go_wp2
          go_ret
          exact ⟨rfl, bstep HA4.out HB4.out⟩
end Go.Proofs.Ytgjnjnfodomldaa
