/- apply's walk, over whatever is shown the parts: each with what it keeps or deletes of the text. Conditions: no more than 2^30 bytes of text; what is shown keeps the parts. -/
import Derived.Test.YtmedaimndaaiiaaMAw
import Derived.Test.YtmedaimndaaiiaaMOm
import Derived.Test.YtmedaimndaaiiaaMTOpNormal
import Derived.Test.YtmedaimndaaiiaaMTOpCheck
import Derived.Test.YtmedaimndaaiiaaMUw
import Derived.Test.YtmedaimndaaiiaaMLab
/- apply's walk, over whatever is shown the parts: each with what it keeps or deletes of the text. Conditions: no more than 2^30 bytes of text; what is shown keeps the parts. -/
namespace Go.Proofs.Ytmedaimndaaiiaa
open Go.RowKit Go.Deep

/-- What a part keeps or deletes of a text. -/
def thereOf (vs : List Nat) (l : List CompV) (i : Nat) : List Nat := (vs.drop (inS (l.take i))).take (inS (l.take (i + 1)) - inS (l.take i))
theorem inS_snoc (l : List CompV) (c : CompV) : inS (l ++ [c]) = inS l + inN c := by rw [inS_append, inS_cons, inS_nil]; omega
theorem inS_take_le (l : List CompV) (i : Nat) : inS (l.take i) ≤ inS l := by
  conv => rhs; rw [← List.take_append_drop i l, inS_append]
  omega
theorem Wh.n {c : CompV} (h : Wh c) : c.n = (inN c : Int) := by
  rcases h.cases with ⟨hk, hn, _⟩ | ⟨hk, hn, _⟩ | ⟨hk, hn, _⟩
  · rw [in_one hk]; omega
  · rw [in_three hk]; omega
  · rw [in_two hk]; omega

/-- What is told of a walk, and how far it has come. -/
def WalkEnd (Inv : Nat → World → Prop) (t : List Nat) (l : List CompV) (e : Ending) (w' : World) : Prop :=
  (rCheck l ≠ 0 ∧ e = .returned (.int .i64 (rCheck l : Int)) ∧ Inv 0 w') ∨
  (rCheck l = 0 ∧ (¬ ∃ vs, V t vs) ∧ e = .returned (.int .i64 2) ∧ Inv 0 w') ∨
  (rCheck l = 0 ∧ ∃ vs, V t vs ∧ (((vs.length : Int) ≠ rBase l ∧ e = .returned (.int .i64 11) ∧ Inv 0 w') ∨ ((vs.length : Int) = rBase l ∧ e = .returned (.int .i64 0) ∧ Inv l.length w')))

theorem part_row (w : World) (kd n : Int) (tx : List Nat) : (w.alloc (.cells #[.int .i64 kd, .int .i64 n, .string (bstr tx)] 29)).rowIs w.heap.size 29 3 (cmCells kd n tx) :=
  World.rowIs_alloc w #[.int .i64 kd, .int .i64 n, .string (bstr tx)] 29 (cmCells kd n tx) (fun i hi => by
    rcases (show i = 0 ∨ i = 1 ∨ i = 2 by simp at hi; omega) with rfl | rfl | rfl <;> rfl)

set_option maxHeartbeats 8000000 in
set_option maxRecDepth 100000 in
theorem apWalk_any (K : Nat) (hK : ∀ (args : Array Value) (w : World), (callFunc K args).run Try.prog w = .ok (.enter K args) w) (cap : Array Value)
    (t : List Nat) (hb : ∀ x ∈ t, x < 256) (htl : t.length ≤ 1073741824) (A : Option Addr) (c : Nat) (l : List CompV) (hl : l.length ≤ maxLen) (hf : Fine1 l) (Inv : Nat → World → Prop)
    (hkeep : ∀ i w w', Inv i w → Below w.heap.size w w' → Inv i w') (hcomps : ∀ i w, Inv i w → CompsAt w A l)
    (hshow : rCheck l = 0 → ∀ vs, V t vs → vs.length = inS l → ∀ i w (hi : i < l.length), Inv i w →
      Calls Try.prog K (#[.agg #[.int .i64 l[i].kind, .int .i64 l[i].n, .string (bstr l[i].text)], .string (bstr (E (thereOf vs l i)))] ++ cap) w fun e w' => e = .returned (.tuple #[]) ∧ Inv (i + 1) w')
    (w : World) (h0 : Inv 0 w) :
    Calls Try.prog 63 #[.string (bstr t), .slice A l.length c, .func (.func K) #[] cap] w fun e w' => WalkEnd Inv t l e w' := by
  have HKP := Lib.hid hkeep; clear hkeep
  have HCM := Lib.hid hcomps; clear hcomps
  have HSH := Lib.hid hshow; clear hshow
  have HL := Lib.hid hl
  have HF := Lib.hid hf
  have HI := Lib.hid h0
  have GC := Lib.hid (opCheck_any A c l hl hf w (HCM.out 0 w h0))
  have GB := Lib.hid (fun w h => opBase_any A c l HL.out w h)
  have HTL := Lib.hid htl
  have HB := Lib.hid hb
  clear h0 hf hb htl
  unfold maxLen at hl
  by_cases hz : rCheck l = 0
  · rw [hz] at GC
    have HOK := Lib.hid (ok_of hz)
    by_cases hv : ∃ vs, V t vs
    · obtain ⟨vs, hvs⟩ := hv
      have HV := Lib.hid hvs; clear hvs
      have GN := Lib.hid (fun w => utfCount_yes HV.out (by have := HTL.out; omega) w)
      have hvl : vs.length ≤ 1073741824 := Nat.le_trans HV.out.length_le HTL.out
      obtain ⟨p, HP⟩ : ∃ x, Hid (rBase l = x) := ⟨_, Lib.hid rfl⟩
      have HPI : Hid (p = (inS l : Int)) := by show _ = _; rw [← HP.out]; exact HOK.out.base
      rw [HP.out] at GB
      have HZ := Lib.hid hz; clear hz
      by_cases hbl : (vs.length : Int) = p
      · have hne : ((vs.length : Int) != p) = false := by rw [bne_eq_false_iff_eq]; exact hbl
        have HBL := Lib.hid hbl
        clear hbl
        have HVI : Hid (vs.length = inS l) := by show _ = _; have := HBL.out; have := HPI.out; omega
        have HE : Hid (∀ w', Inv l.length w' → WalkEnd Inv t l (.returned (.int .i64 0)) w') := fun w' h => .inr (.inr ⟨HZ.out, vs, HV.out, .inr ⟨by rw [HP.out]; exact HBL.out, rfl, h⟩⟩)
        have HSW := Lib.hid (HSH.out HZ.out vs HV.out HVI.out)
        go_enter Try.func63, Try.ntmps63
        go_wp2
        refine wp_scope_fwd ?_
        go_wp2_with fail
        refine GC.out.mono ?_
        rintro e w1 ⟨rfl, hb1⟩
        have HI1 := Lib.hid (HKP.out _ _ _ HI.out hb1); clear hb1
        go_wp2_with fail
        refine (GN.out w1).mono ?_
        rintro e w2 ⟨rfl, hb2⟩
        have HI2 := Lib.hid (HKP.out _ _ _ HI1.out hb2); clear hb2
        go_wp2_with fail
        refine (GB.out w2 (HCM.out _ _ HI2.out)).mono ?_
        rintro e w3 ⟨rfl, hb3⟩
        have HI3 := Lib.hid (HKP.out _ _ _ HI2.out hb3); clear hb3
        go_wp2
        go_loopw [0, 29] (fun x i wr => ∃ k : Nat, k ≤ l.length ∧ i = .int .i64 k ∧ x = .string (bstr (E (vs.drop (inS (l.take k))))) ∧ Inv k wr) (fun _ i _ => l.length - (intOf i).toNat)
        case atStart => exact ⟨0, Nat.zero_le _, rfl, by rw [List.take_zero, inS_nil, List.drop_zero, HV.out.bytes], HI3.out⟩
        case round =>
          obtain ⟨k, hk, rfl, rfl, hi⟩ := hrel
          have HIK := Lib.hid hi; clear hi
          by_cases hlt : k < l.length
          · obtain ⟨b, off, rfl, _⟩ := (HCM.out k _ HIK.out).form (by omega)
            obtain ⟨x0, x1, x2⟩ := (HCM.out k _ HIK.out).at_ hlt
            have HS1 := Lib.hid (HSW.out k · hlt)
            have HWN := Lib.hid (HOK.out.wh _ (List.getElem_mem hlt)).n
            have HSN : Hid (inS (l.take (k + 1)) = inS (l.take k) + inN l[k]) := by show _ = _; rw [List.take_succ_eq_append_getElem hlt, inS_snoc]
            have HSL : Hid (inS (l.take (k + 1)) ≤ vs.length) := by show _ ≤ _; rw [HVI.out]; exact inS_take_le l (k + 1)
            have HTO : Hid (thereOf vs l k = (vs.drop (inS (l.take k))).take (inS (l.take (k + 1)) - inS (l.take k))) := rfl
            obtain ⟨a, HA⟩ : ∃ x, Hid (inS (l.take k) = x) := ⟨_, Lib.hid rfl⟩
            obtain ⟨m, HM⟩ : ∃ x, Hid (inN l[k] = x) := ⟨_, Lib.hid rfl⟩
            obtain ⟨T, HT⟩ : ∃ x, Hid (thereOf vs l k = x) := ⟨_, Lib.hid rfl⟩
            rw [HT.out] at HS1 HTO
            rw [HA.out, HM.out] at HSN
            rw [HM.out] at HWN
            rw [HSN.out] at HSL
            rw [HSN.out, HA.out, show a + m - a = m by omega] at HTO
            have HSL2 := HSL.out
            have HVR : Hid (V (E (vs.drop a)) (vs.drop a)) := V.mk (fun v hv => HV.out.may v (List.mem_of_mem_drop hv))
            have HRL : Hid ((E (vs.drop a)).length ≤ 1073741824) := by
              show _ ≤ _
              rw [← E_drop, HV.out.bytes, List.length_drop]
              have := HTL.out
              omega
            have GW := Lib.hid (fun w => width_any HVR.out (by have := HRL.out; omega) m (by rw [List.length_drop]; omega) w)
            obtain ⟨q, HQ⟩ : ∃ x, Hid ((E ((vs.drop a).take m)).length = x) := ⟨_, Lib.hid rfl⟩
            rw [HQ.out] at GW
            have hqle : q ≤ (E (vs.drop a)).length := by rw [← HQ.out]; exact E_take_len _ _
            have hsl1 := fun w => slice_bstr_to (E (vs.drop a)) q hqle w
            have hsl2 := fun w => slice_bstr_from (E (vs.drop a)) q hqle w
            have e1 : (E (vs.drop a)).take q = E T := by
              rw [← HQ.out, HTO.out]
              have := E_piece (vs.drop a) 0 m (Nat.zero_le _)
              rw [List.take_zero, E_nil, List.drop_zero] at this
              exact this
            have e2 : (E (vs.drop a)).drop q = E (vs.drop (a + m)) := by
              rw [← HQ.out, E_drop, List.drop_drop]
            rw [e1] at hsl1
            rw [e2] at hsl2
            have hsz : (bstr (E T)).size = q := by rw [bstr_size, HTO.out]; exact HQ.out
            have HSZ := Lib.hid hsz
            clear e1 e2 hsz hqle
            obtain ⟨S, HSS⟩ : ∃ x, Hid (bstr (E T) = x) := ⟨_, Lib.hid rfl⟩
            rw [HSS.out] at hsl1 HS1 HSZ
            have hsz := HSZ.out
            rw [HA.out]
            obtain ⟨S0, HS0⟩ : ∃ x, Hid (bstr (E (vs.drop a)) = x) := ⟨_, Lib.hid rfl⟩
            rw [HS0.out] at hsl1 hsl2 GW ⊢
            have HSN2 : Hid (inS (l.take (k + 1)) = a + m) := HSN
            generalize l[k] = y at x0 x1 x2 HS1 HWN HM
            obtain ⟨kd, n, tx⟩ := y
            simp only at x0 x1 x2 HS1 HWN
            have hwn := HWN.out
            subst hwn
            clear HSN HSL2
            go_wp2_with fail
            refine (GW.out _).mono ?_
            rintro e w5 ⟨rfl, hb5⟩
            have HR : Hid (w5.rowIs wr.heap.size 29 3 (cmCells kd m tx)) := (part_row wr kd m tx).of_block (hb5.block wr.heap.size (by simp))
            have y0 : w5.cell? ⟨wr.heap.size, 0, none⟩ = some (.int .i64 kd) := HR.out.cell (i := 0) (by omega)
            have y1 : w5.cell? ⟨wr.heap.size, 1, none⟩ = some (.int .i64 (m : Int)) := HR.out.cell (i := 1) (by omega)
            have y2 : w5.cell? ⟨wr.heap.size, 2, none⟩ = some (.string (bstr tx)) := HR.out.cell (i := 2) (by omega)
            have HI5 : Hid (Inv k w5) := HKP.out _ _ _ HIK.out (((Below.refl _ wr).alloc (Nat.le_refl _) _).trans (hb5.mono (by simp)))
            clear hb5 x0 x1 x2
            go_wp2_with fail
            refine (HS1.out _ HI5.out).mono ?_
            rintro e w6 ⟨rfl, hi6⟩
            have HI6 := Lib.hid hi6; clear hi6
            clear y0 y1 y2
            go_wp2
            go_roundw
            case rel => exact ⟨k + 1, by omega, by go_num, by rw [HSN2.out], HI6.out⟩
            case measure => simp [intOf]; omega
          · have hkl : k = l.length := by omega
            subst hkl
            go_wp2
            go_step3
            go_wp2
            rw [fwd_ret]
            go_ret
            exact HE.out _ HIK.out
      · have hne : ((vs.length : Int) != p) = true := by rw [bne_iff_ne]; exact hbl
        have HE : Hid (∀ w', Inv 0 w' → WalkEnd Inv t l (.returned (.int .i64 11)) w') := fun w' h => .inr (.inr ⟨HZ.out, vs, HV.out, .inl ⟨by rw [HP.out]; exact hbl, rfl, h⟩⟩)
        clear hbl
        go_enter Try.func63, Try.ntmps63
        go_wp2
        refine wp_scope_fwd ?_
        go_wp2_with fail
        refine GC.out.mono ?_
        rintro e w1 ⟨rfl, hb1⟩
        have HI1 := Lib.hid (HKP.out _ _ _ HI.out hb1); clear hb1
        go_wp2_with fail
        refine (GN.out w1).mono ?_
        rintro e w2 ⟨rfl, hb2⟩
        have HI2 := Lib.hid (HKP.out _ _ _ HI1.out hb2); clear hb2
        go_wp2_with fail
        refine (GB.out w2 (HCM.out _ _ HI2.out)).mono ?_
        rintro e w3 ⟨rfl, hb3⟩
        have HI3 := Lib.hid (HKP.out _ _ _ HI2.out hb3); clear hb3
        go_wp2
        go_step3
        refine ⟨_, rfl, ?_⟩
        go_wp2
        rw [Exit.noGoto_ret]
        go_ret
        exact HE.out _ HI3.out
    · have HE : Hid (∀ w', Inv 0 w' → WalkEnd Inv t l (.returned (.int .i64 2)) w') := fun w' h => .inr (.inl ⟨hz, hv, rfl, h⟩)
      have GN := Lib.hid (fun w => utfCount_no hv HB.out (by have := HTL.out; omega) w)
      clear hv hz
      go_enter Try.func63, Try.ntmps63
      go_wp2
      refine wp_scope_fwd ?_
      go_wp2_with fail
      refine GC.out.mono ?_
      rintro e w1 ⟨rfl, hb1⟩
      have HI1 := Lib.hid (HKP.out _ _ _ HI.out hb1); clear hb1
      go_wp2_with fail
      refine (GN.out w1).mono ?_
      rintro e w2 ⟨rfl, hb2⟩
      have HI2 := Lib.hid (HKP.out _ _ _ HI1.out hb2); clear hb2
      go_wp2
      go_step3
      refine ⟨_, rfl, ?_⟩
      go_wp2
      rw [Exit.noGoto_ret]
      go_ret
      exact HE.out _ HI2.out
  · have HE : Hid (∀ w', Inv 0 w' → WalkEnd Inv t l (.returned (.int .i64 (rCheck l : Int))) w') := fun w' h => .inl ⟨hz, rfl, h⟩
    obtain ⟨q, HQ⟩ : ∃ q, Hid (rCheck l = q) := ⟨_, Lib.hid rfl⟩
    rw [HQ.out] at GC HE hz
    have hz2 : ((q : Int) != 0) = true := bne_iff_ne.2 (by omega)
    go_enter Try.func63, Try.ntmps63
    go_wp2
    refine wp_scope_fwd ?_
    go_wp2_with fail
    refine GC.out.mono ?_
    rintro e w1 ⟨rfl, hb1⟩
    have HI1 := Lib.hid (HKP.out _ _ _ HI.out hb1); clear hb1
    go_wp2
    go_step3
    refine ⟨_, rfl, ?_⟩
    go_wp2
    rw [Exit.noGoto_ret]
    go_ret
    exact HE.out _ HI1.out
end Go.Proofs.Ytmedaimndaaiiaa
