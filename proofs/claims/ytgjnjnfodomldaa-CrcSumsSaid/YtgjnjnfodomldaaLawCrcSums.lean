/- The walk of the law CrcSums: whatever slices of bytes and sum it is called with, it answers true; what was there stays as it was. Condition: no slice is longer than memory. -/
import Derived.Test.YtgjnjnfodomldaaCrcAwake
import Derived.Test.YtgjnjnfodomldaaAlikeBytes
namespace Go.Proofs.Ytgjnjnfodomldaa
open Go.RowKit Go.Deep

theorem crcSums_heavy (A : Option Addr) (L : List (Option Addr × Nat × List Nat)) (c : Nat) (hL : L.length ≤ maxLen) (hF : Fine L) (hh : 2000 < weight 2000 0 L) (s : Nat) (B : Option Addr) (n d : Nat) (w : World) (hA : RowsAt w A L) :
    Calls Try.prog 3 #[.slice A L.length c, .int .u32 (s : Int), .slice B n d] w fun e w' => e = .returned (.bool true) ∧ Below w.heap.size w w' := by
  have HC := Lib.hid (alikeBytes_at 2000 c hL hF w hA)
  clear hA hF
  obtain ⟨r, HR⟩ : ∃ r, Hid (weight 2000 0 L = r) := ⟨_, rfl⟩
  rw [HR.out] at HC hh
  go_enter Try.func3, Try.ntmps3
  go_wp2_with fail
  refine HC.out.mono ?_
  rintro e w1 ⟨rfl, hb1⟩
  have HB1 := Lib.hid hb1; clear hb1
  go_wp2_with fail
  refine (crcAwake_any _).mono ?_
  rintro e w2 ⟨rfl, hb2⟩
  have HB2 := Lib.hid hb2; clear hb2
  go_wp2
  go_ret
  exact ⟨rfl, bstep HB1.out HB2.out⟩
theorem crcSums_long (A : Option Addr) (L : List (Option Addr × Nat × List Nat)) (c : Nat) (hL : L.length ≤ maxLen) (hF : Fine L) (hh : weight 2000 0 L ≤ 2000) (s : Nat) (B : Option Addr) (n d : Nat) (hn : 2000 < n) (w : World) (hA : RowsAt w A L) :
    Calls Try.prog 3 #[.slice A L.length c, .int .u32 (s : Int), .slice B n d] w fun e w' => e = .returned (.bool true) ∧ Below w.heap.size w w' := by
  have HC := Lib.hid (alikeBytes_at 2000 c hL hF w hA)
  clear hA hF
  obtain ⟨r, HR⟩ : ∃ r, Hid (weight 2000 0 L = r) := ⟨_, rfl⟩
  rw [HR.out] at HC hh
  go_enter Try.func3, Try.ntmps3
  go_wp2_with fail
  refine HC.out.mono ?_
  rintro e w1 ⟨rfl, hb1⟩
  have HB1 := Lib.hid hb1; clear hb1
  go_wp2_with fail
  refine (crcAwake_any _).mono ?_
  rintro e w2 ⟨rfl, hb2⟩
  have HB2 := Lib.hid hb2; clear hb2
  go_wp2
  go_ret
  exact ⟨rfl, bstep HB1.out HB2.out⟩

/-- What the loop of CrcSums holds behind k slices. -/
def SumsRel (w : World) (L : List (Option Addr × Nat × List Nat)) (k : Nat) (v t i : Value) (wr : World) : Prop :=
  k ≤ L.length ∧ i = .int .i64 k ∧ t = .int .u32 ((sm (flat (L.take k)) : Nat) : Int) ∧ wr.ownsRow w.heap.size 5 1 v (flat (L.take k)).length (u8s (flat (L.take k))) ∧ Below w.heap.size w wr

set_option maxRecDepth 100000 in
theorem crcSums_yes (A : Option Addr) (L : List (Option Addr × Nat × List Nat)) (c : Nat) (hL : L.length ≤ 2000) (hF : Fine L) (hh : weight 2000 0 L ≤ 2000) (s : Nat) (hs : s < 4294967296) (B : Option Addr) (l : List Nat) (d : Nat) (hl : l.length ≤ 2000) (hb : ∀ x ∈ l, x < 256) (w : World) (hA : RowsAt w A L) (hB : BytesAt w B l) :
    Calls Try.prog 3 #[.slice A L.length c, .int .u32 (s : Int), .slice B l.length d] w fun e w' => e = .returned (.bool true) ∧ Below w.heap.size w w' := by
  have HFL := Lib.hid (weight_spec 2000 (by omega) L 0 hh)
  have HC := Lib.hid (alikeBytes_at 2000 c (by simp only [maxLen]; omega) hF w hA)
  have HA := Lib.hid hA; clear hA
  have HB := Lib.hid hB; clear hB
  have HF := Lib.hid hF; clear hF
  have HBB := Lib.hid hb; clear hb
  have HS := Lib.hid hs; clear hs
  obtain ⟨r, HR⟩ : ∃ r, Hid (weight 2000 0 L = r) := ⟨_, rfl⟩
  rw [HR.out] at HC hh HFL
  go_enter Try.func3, Try.ntmps3
  go_wp2_with fail
  refine HC.out.mono ?_
  rintro e w1 ⟨rfl, hb1⟩
  have HB1 := Lib.hid hb1; clear hb1
  go_wp2_with fail
  refine (sum_none _ _ _).mono ?_
  rintro e w2 ⟨rfl, rfl⟩
  go_wp2_with fail
  go_loopw [7, 8, 9] (fun v t i wr => ∃ k : Nat, SumsRel w L k v t i wr) (fun _ _ i _ => L.length - (intOf i).toNat)
  case atStart => exact ⟨0, Nat.zero_le _, rfl, by rw [List.take_zero, flat_nil, sm_nil]; rfl, by simpa [flat_nil, u8s] using World.ownsRow_nil _ _ _ _, HB1.out⟩
  case round =>
    obtain ⟨k, hk, rfl, rfl, hown, hbel⟩ := hrel
    have HOWN := Lib.hid hown; clear hown
    have HBEL := Lib.hid hbel; clear hbel
    have HBND : Hid ((flat L).length ≤ 2000) := by show (flat L).length ≤ 2000; have := HFL.out; omega
    by_cases hlt : k < L.length
    · have hf0 : 0 < L.length := by omega
      obtain ⟨gb, go, hga, _⟩ := HA.out.form hf0
      subst hga
      obtain ⟨q, HQ⟩ : ∃ q, Hid (sm (flat (L.take k)) = q) := ⟨_, rfl⟩
      have HQL : Hid (q < 4294967296) := by show q < 4294967296; rw [← HQ.out]; exact sm_lt _
      have hcell := ((HA.out.below HBEL.out).cell hlt).1
      have HAT := Lib.hid (HA.out.cell hlt).2
      have HFF := Lib.hid (HF.out _ (List.getElem_mem hlt))
      have HN : Hid (sm (flat (L.take (k + 1))) = ms q L[k].2.2) := by
        show sm (flat (L.take (k + 1))) = ms q L[k].2.2
        rw [flat_take _ _ hlt, sm_append _ _ ((HF.out.take k).flat), HQ.out]
      have HT := Lib.hid (flat_take L k hlt)
      have HLEN : Hid ((flat (L.take k)).length + L[k].2.2.length ≤ 2000) := by
        show (flat (L.take k)).length + L[k].2.2.length ≤ 2000
        have h1 := HBND.out
        have h2 : (flat L).length = (flat (L.take (k + 1))).length + (flat (L.drop (k + 1))).length := by
          conv => lhs; rw [← List.take_append_drop (k + 1) L, flat, List.flatMap_append, List.length_append]
          rfl
        rw [flat_take _ _ hlt, List.length_append] at h2
        omega
      obtain ⟨x, HX⟩ : ∃ x, Hid (L[k] = x) := ⟨L[k], Lib.hid rfl⟩
      have HCE : Hid (∀ wz : World, Below w.heap.size w wz → wz.cell? ⟨gb, go + k, none⟩ = some (.slice x.1 x.2.2.length x.2.1)) := by
        show ∀ wz : World, Below w.heap.size w wz → wz.cell? ⟨gb, go + k, none⟩ = some (.slice x.1 x.2.2.length x.2.1)
        intro wz hz
        rw [← HX.out]
        exact ((HA.out.below hz).cell hlt).1
      rw [HX.out] at hcell HAT HFF HN HT HLEN
      obtain ⟨Ax, cx, lx⟩ := x
      simp only at hcell HAT HFF HN HT HLEN HCE
      rw [HQ.out]
      go_wp2_with (at_builtin
                   refine wpList_append_bytes rfl (.tmp 27) (.tmp 31) rfl w.heap.size u7 (flat (L.take k)).length (flat (L.take k)) rfl HOWN.out Ax lx cx rfl (HAT.out.below HBEL.out) (by have := HLEN.out; omega) HBEL.out.size ?_
                   intro v2 w2 hap2
                   have HAP2 := Lib.hid hap2
                   have hbo2 := hap2.below HBEL.out HBEL.out.size (fun j hj => (HOWN.out.lt j hj).1)
                   have HBO2 := Lib.hid hbo2.1
                   clear hap2 hbo2 hcell
                   have hcell2 := HCE.out w2 HBO2.out)
      refine (crcMore_at _ HQL.out _ HFF.out.1 HFF.out.2 _ (HAT.out.below HBO2.out)).mono ?_
      rintro e w3 ⟨rfl, rfl⟩
      clear hcell2
      have HO2 := Lib.hid HAP2.out.1
      go_wp2_with fail
      go_roundw
      case rel => exact ⟨k + 1, by omega, by go_num, by rw [HN.out], by rw [HT.out, List.length_append]; exact HO2.out, HBO2.out⟩
      case measure => simp [intOf]; omega
    · obtain rfl : k = L.length := by omega
      rw [List.take_length] at HOWN ⊢
      obtain ⟨A7, c7, rfl⟩ := own_slice HOWN.out
      have HAT7 := Lib.hid (BytesAt.of_own HOWN.out rfl)
      have HFB := Lib.hid HF.out.flat
      obtain ⟨F, HFE⟩ : ∃ F, Hid (flat L = F) := ⟨_, rfl⟩
      have GS := Lib.hid (fun w (h : RowsAt w A L) => crcSum_at c (by simp only [maxLen]; omega) HF.out w h)
      rw [HFE.out] at HAT7 HFB HBND GS ⊢
      obtain ⟨q, HQ⟩ : ∃ q, Hid (sm F = q) := ⟨_, rfl⟩
      have G1 := Lib.hid (fun w (h : BytesAt w A7 F) => refSum_at c7 (by have := HBND.out; simp only [maxLen]; omega) HFB.out w h)
      have G2 := Lib.hid (fun w (h : BytesAt w A7 F) t g hg => crcSum_one c7 1 (by have := HBND.out; simp only [maxLen]; omega) HFB.out w h t g hg)
      have G3 := Lib.hid (fun w (h : BytesAt w B l) => crcMore_at s HS.out d (by simp only [maxLen]; omega) HBB.out w h)
      have G4 := Lib.hid (fun w (h : BytesAt w B l) => refMore_at (inv s) (inv_lt s) d (by simp only [maxLen]; omega) HBB.out w h)
      have G5 := Lib.hid (fun w (h : BytesAt w B l) => crcSame_at s d (by simp only [maxLen]; omega) HBB.out w h)
      have G6 := Lib.hid (fun w (h : BytesAt w B l) => refSum_at d (by simp only [maxLen]; omega) HBB.out w h)
      have HI := Lib.hid (inv32 s HS.out)
      have HI2 := Lib.hid (inv32 (mr (inv s) l) (mr_lt l (inv_lt s) HBB.out))
      rw [ms_def] at HI2
      obtain ⟨m, HM⟩ : ∃ m, Hid (mr (inv s) l = m) := ⟨_, rfl⟩
      rw [HM.out] at G4 HI2
      rw [HQ.out] at GS G1 G2 ⊢
      obtain ⟨y, HY⟩ : ∃ y, Hid (sm l = y) := ⟨_, rfl⟩
      obtain ⟨z, HZ⟩ : ∃ z, Hid (ms s l = z) := ⟨_, rfl⟩
      rw [HY.out] at G5 G6
      rw [HZ.out] at G3 HI2
      go_wp2_with fail
      refine (G1.out _ HAT7.out).mono ?_
      rintro e w3 ⟨rfl, rfl⟩
      go_wp2_with fail
      refine (GS.out _ (HA.out.below HBEL.out)).mono ?_
      rintro e w3 ⟨rfl, rfl⟩
      go_wp2_with fail
      refine (G2.out _ HAT7.out _ _ ?_).mono ?_
      · simp
      rintro e w3 ⟨rfl, rfl⟩
      go_wp2_with fail
      refine (G3.out _ ((HB.out.below HBEL.out).alloc _)).mono ?_
      rintro e w3 ⟨rfl, rfl⟩
      go_wp2_with fail
      rw [HI.out]
      refine (G4.out _ ((HB.out.below HBEL.out).alloc _)).mono ?_
      rintro e w3 ⟨rfl, rfl⟩
      have hi2 := HI2.out
      go_wp2_with fail
      refine (G5.out _ ((HB.out.below HBEL.out).alloc _)).mono ?_
      rintro e w3 ⟨rfl, hb3⟩
      have HB3 := Lib.hid hb3; clear hb3 hi2
      go_wp2_with fail
      refine (G6.out _ (((HB.out.below HBEL.out).alloc _).below HB3.out)).mono ?_
      rintro e w4 ⟨rfl, rfl⟩
      by_cases hsy : s = y
      · have h1 : decide (s = y) = true := decide_eq_true hsy
        have h2 : (((y : Nat) : Int) == ((s : Nat) : Int)) = true := by rw [hsy]; exact beq_self_eq_true _
        clear hsy
        go_wp2_with fail
        refine (crcAwake_any _).mono ?_
        rintro e w4 ⟨rfl, hb4⟩
        have HB4 := Lib.hid hb4; clear hb4
        go_wp2
        go_ret
        exact ⟨rfl, bstep (bstep (balloc HBEL.out _) HB3.out) HB4.out⟩
      · have h1 : decide (s = y) = false := decide_eq_false hsy
        have h2 : (((y : Nat) : Int) == ((s : Nat) : Int)) = false := beq_eq_false_iff_ne.2 (by omega)
        clear hsy
        go_wp2_with fail
        refine (crcAwake_any _).mono ?_
        rintro e w4 ⟨rfl, hb4⟩
        have HB4 := Lib.hid hb4; clear hb4
        go_wp2
        go_ret
        exact ⟨rfl, bstep (bstep (balloc HBEL.out _) HB3.out) HB4.out⟩
end Go.Proofs.Ytgjnjnfodomldaa
