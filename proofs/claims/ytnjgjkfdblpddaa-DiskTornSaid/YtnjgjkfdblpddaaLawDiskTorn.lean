/- The law DiskTorn: of two writes one is torn where the pick says: its beginning is new, its end is old; the other one is whole. No condition. -/
import Derived.Test.YtnjgjkfdblpddaaDiskOn
namespace Go.Proofs.Ytnjgjkfdblpddaa
open Go.RowKit Go.Deep

theorem four_none : (List.replicate 4 (none : Option (List Nat))).length = 4 := rfl
theorem on_fit4 {S : List (Option (List Nat))} {C : List (Nat × List Nat)} {k : Nat} (h4 : S.length = 4) (hs : ∀ o ∈ S, (secB o).length = 64) (hc : ∀ p ∈ C, p.1 < 4 ∧ p.2.length = 64) : (onD S C k).Fit :=
  ⟨by show 0 < S.length; omega, by show S.length ≤ 65536; omega, hs, fun p hp => by have := hc p hp; exact ⟨by show p.1 < S.length; omega, this.2⟩⟩

set_option maxHeartbeats 8000000 in
set_option maxRecDepth 100000 in
theorem diskTorn_any (a b wh at_ : Int) (w : World) :
    Calls Try.prog 6 #[.int .i64 a, .int .i64 b, .int .i64 wh, .int .i64 at_] w fun e w' => e = .returned (.bool true) ∧ Below w.heap.size w w' := by
  have GA := Lib.hid awake_any
  by_cases h1 : wh < 1
  · go_enter Try.func6, Try.ntmps6
    go_wp2_with fail
    refine (GA.out w).mono ?_
    rintro e w3 ⟨rfl, hb3⟩
    have HB3 := Lib.hid hb3; clear hb3
    go_wp2
    go_ret
    exact ⟨rfl, HB3.out⟩
  by_cases h2 : 1000 < wh
  · go_enter Try.func6, Try.ntmps6
    go_wp2_with fail
    refine (GA.out w).mono ?_
    rintro e w3 ⟨rfl, hb3⟩
    have HB3 := Lib.hid hb3; clear hb3
    go_wp2
    go_ret
    exact ⟨rfl, HB3.out⟩
  by_cases h3 : at_ < -1000
  · go_enter Try.func6, Try.ntmps6
    go_wp2_with fail
    refine (GA.out w).mono ?_
    rintro e w3 ⟨rfl, hb3⟩
    have HB3 := Lib.hid hb3; clear hb3
    go_wp2
    go_ret
    exact ⟨rfl, HB3.out⟩
  by_cases h4 : 1000 < at_
  · go_enter Try.func6, Try.ntmps6
    go_wp2_with fail
    refine (GA.out w).mono ?_
    rintro e w3 ⟨rfl, hb3⟩
    have HB3 := Lib.hid hb3; clear hb3
    go_wp2
    go_ret
    exact ⟨rfl, HB3.out⟩
  have GB := Lib.hid (fun n w => block_sec n w)
  have HLN := Lib.hid (fun n => blks_length 64 n)
  obtain ⟨B, HB⟩ : ∃ B : Int → List Nat, Hid (blks 64 = B) := ⟨_, Lib.hid rfl⟩
  rw [HB.out] at GB HLN
  go_enter Try.func6, Try.ntmps6
  go_wp2_with fail
  refine (alone_new (n := 4) (by omega) (by omega) w).mono ?_
  rintro e w1 ⟨g, rfl, hal, hb1⟩
  have HAL := Lib.hid hal; have HB1 := Lib.hid hb1
  clear hal hb1
  go_wp2_with fail
  go_loopw [11] (fun i wr => ∃ k : Nat, k ≤ 2 ∧ i = .int .i64 k ∧ Alone w.heap.size g (onD (List.replicate 4 none) ([(0, B 5), (1, B 6)].take k) k) wr ∧ Below w.heap.size w wr) (fun i _ => 2 - (intOf i).toNat)
  case atStart => exact ⟨0, by omega, rfl, HAL.out, HB1.out⟩
  case round =>
    obtain ⟨k, hk, rfl, hal, hb⟩ := hrel
    have HA2 := Lib.hid hal; have HB2 := Lib.hid hb
    clear hal hb
    by_cases k2 : k = 2
    · subst k2
      have HA3 : Hid (Alone w.heap.size g (onD (List.replicate 4 none) [(0, B 5), (1, B 6)] 2) wr) := HA2.out
      clear HA2
      --A
      have HF1 : Hid ((onD (List.replicate 4 none) [(0, B 5), (1, B 6)] 2).Fit) := on_fit4 four_none (fun o ho => by rw [List.eq_of_mem_replicate ho]; simp [secB, noughts]) (fun p hp => by
        simp only [List.mem_cons, List.not_mem_nil, or_false] at hp
        rcases hp with rfl | rfl
        · exact ⟨by show (0 : Nat) < 4; omega, HLN.out 5⟩
        · exact ⟨by show (1 : Nat) < 4; omega, HLN.out 6⟩)
      go_wp2_with fail
      refine (alone_flush HA3.out (by show 2 ≤ 1099511627776; omega) (by show 2 ≤ 1048576; omega) HF1.out).mono ?_
      rw [on_flush]
      rintro e wf ⟨rfl, hal, hbf⟩
      have HAF : Hid (Alone w.heap.size g (onD [some (B 5), some (B 6), none, none] [] 3) wf) := hal
      have HBF : Hid (Below w.heap.size w wf) := HB2.out.trans hbf
      clear hal hbf HA3 HB2
      go_wp2_with fail
      refine (GB.out a wf).mono ?_
      rintro e wa ⟨ga, ca, rfl, hat, hge, hlt, hbel, _⟩
      have HATa := Lib.hid hat; have HGEa := Lib.hid hge; have HBEa := Lib.hid hbel
      clear hat hge hlt hbel
      go_wp2_with fail
      refine (alone_sec (HAF.out.below HBEa.out) (by show 3 ≤ 1099511627776; omega) (by show 0 ≤ 1048576; omega) ((0 : Nat) : Int) ga (B a) ca HATa.out (by have := HAF.out.lt; have := HGEa.out; omega) (HLN.out _)).mono ?_
      rw [on_write (by show (0 : Nat) < 4; omega) (HLN.out _)]
      rintro e wb ⟨rfl, hal, hbb⟩
      have HAB := Lib.hid hal
      have HBB : Hid (Below w.heap.size w wb) := HBF.out.trans ((HBEa.out.mono HBF.out.size).trans hbb)
      clear hal hbb HAF HBF
      go_wp2_with fail
      refine (GB.out b wb).mono ?_
      rintro e wb ⟨gb, cb, rfl, hat, hge, hlt, hbel, _⟩
      have HATb := Lib.hid hat; have HGEb := Lib.hid hge; have HBEb := Lib.hid hbel
      clear hat hge hlt hbel
      go_wp2_with fail
      refine (alone_sec (HAB.out.below HBEb.out) (by show 4 ≤ 1099511627776; omega) (by show 1 ≤ 1048576; omega) ((1 : Nat) : Int) gb (B b) cb HATb.out (by have := HAB.out.lt; have := HGEb.out; omega) (HLN.out _)).mono ?_
      rw [on_write (by show (1 : Nat) < 4; omega) (HLN.out _)]
      rintro e wc ⟨rfl, hal, hbc⟩
      have HAC : Hid (Alone w.heap.size g (onD [some (B 5), some (B 6), none, none] [(0, B a), (1, B b)] 5) wc) := hal
      have HBC : Hid (Below w.heap.size w wc) := HBB.out.trans ((HBEb.out.mono HBB.out.size).trans hbc)
      clear hal hbc HAB HBB
      go_wp2_with fail
      refine (alone_cached HAC.out).mono ?_
      rintro e w' ⟨rfl, rfl⟩
      have hlen2 : ((onD [some (B 5), some (B 6), none, none] [(0, B a), (1, B b)] 5).cache.length : Int) = 2 := rfl
      rw [hlen2]
      clear hlen2
      have HF2 : Hid ((onD [some (B 5), some (B 6), none, none] [(0, B a), (1, B b)] 5).Fit) := on_fit4 rfl (fun o ho => by
        simp only [List.mem_cons, List.not_mem_nil, or_false] at ho
        rcases ho with rfl | rfl | rfl | rfl
        · exact HLN.out 5
        · exact HLN.out 6
        · simp [secB, noughts]
        · simp [secB, noughts]) (fun p hp => by
        simp only [List.mem_cons, List.not_mem_nil, or_false] at hp
        rcases hp with rfl | rfl
        · exact ⟨by show (0 : Nat) < 4; omega, HLN.out a⟩
        · exact ⟨by show (1 : Nat) < 4; omega, HLN.out b⟩)
      go_wp2_with fail
      have HBD : Hid (Below wc.heap.size wc (wc.alloc (.cells #[.int .i64 3, .int .i64 wh, .int .i64 at_] 3))) := (Below.refl _ _).alloc (Nat.le_refl _) _
      have hat3 : IntsAt (wc.alloc (.cells #[.int .i64 3, .int .i64 wh, .int .i64 at_] 3)) (some ⟨wc.heap.size, 0, none⟩) [3, wh, at_] := IntsAt.lit (fun j x hx => by
        match j, hx with
        | 0, hx => injection hx with hx; subst hx; rfl
        | 1, hx => injection hx with hx; subst hx; rfl
        | 2, hx => injection hx with hx; subst hx; rfl
        | j + 3, hx => simp at hx) rfl
      have gc := alone_crash (HAC.out.below HBD.out) (by show 2 ≤ 1048576; omega) HF2.out (some ⟨wc.heap.size, 0, none⟩) [3, wh, at_] 3 hat3
      rw [show [3, wh, at_].length = 3 from rfl, torn_safe (B 5) (B 6) (B a) (B b) wh at_ (by omega)] at gc
      refine gc.mono ?_
      clear gc hat3
      rintro e we ⟨gx, rfl, hax, _, hbe, _⟩
      have HBE : Hid (Below w.heap.size w we) := HBC.out.trans ((HBD.out.trans (hbe.mono HBD.out.size)).mono HBC.out.size)
      have HAX := Lib.hid hax
      clear hax hbe HBD HBC HAC
      have hr := rnd_lt at_ (n := 65) (by omega)
      obtain ⟨t, HT⟩ : ∃ t, Hid (rnd at_ 65 = t) := ⟨_, Lib.hid rfl⟩
      have GR := Lib.hid (fun w => alikeRound_any at_ 65 (by omega) (by omega) w)
      rw [HT.out] at HAX GR hr
      obtain ⟨DX, HDX⟩ : ∃ D, Hid (onD [some (if (0 : Int) = wh % 2 then (B a).take t ++ (B 5).drop t else B a), some (if (1 : Int) = wh % 2 then (B b).take t ++ (B 6).drop t else B b), none, none] [] 0 = D) := ⟨_, Lib.hid rfl⟩
      have HK0 : Hid (DX.look 0 = some (if (0 : Int) = wh % 2 then (B a).take t ++ (B 5).drop t else B a)) := by show _ = _; rw [← HDX.out]; rfl
      have HK1 : Hid (DX.look 1 = some (if (1 : Int) = wh % 2 then (B b).take t ++ (B 6).drop t else B b)) := by show _ = _; rw [← HDX.out]; rfl
      have HDL : Hid (DX.safe.length = 4 ∧ DX.cache.length = 0 ∧ DX.ops = 0 ∧ DX.flush.2 = 0) := by
        rw [← HDX.out]
        exact ⟨rfl, rfl, rfl, by rw [on_flush]⟩
      have HDF : Hid DX.Fit := by
        show DX.Fit
        rw [← HDX.out]
        refine on_fit4 rfl (fun o ho => ?_) (fun p hp => by cases hp)
        have h5 := HLN.out 5
        have h6 := HLN.out 6
        have ha := HLN.out a
        have hb := HLN.out b
        simp only [List.mem_cons, List.not_mem_nil, or_false] at ho
        rcases ho with rfl | rfl | rfl | rfl
        · show (ite _ _ _ : List Nat).length = 64
          split
          · rw [List.length_append, List.length_take, List.length_drop]; omega
          · exact ha
        · show (ite _ _ _ : List Nat).length = 64
          split
          · rw [List.length_append, List.length_take, List.length_drop]; omega
          · exact hb
        · simp [secB, noughts]
        · simp [secB, noughts]
      rw [HDX.out] at HAX
      go_wp2_with fail
      refine (GR.out _).mono ?_
      rintro e w' ⟨rfl, rfl⟩
      clear GR
      go_wp2_with fail
      go_loopw [14] (fun i wr => ∃ k : Nat, k ≤ 2 ∧ i = .int .i64 k ∧ Alone w.heap.size gx DX wr ∧ Below w.heap.size w wr) (fun i _ => 2 - (intOf i).toNat)
      case atStart => exact ⟨0, by omega, rfl, HAX.out, HBE.out⟩
      case round =>
        obtain ⟨k, hk, rfl, hal, hb⟩ := hrel
        have HA2 := Lib.hid hal; have HB2 := Lib.hid hb
        clear hal hb
        by_cases k2 : k = 2
        · subst k2
          go_wp2_with fail
          refine (alone_cached HA2.out).mono ?_
          rintro e w' ⟨rfl, rfl⟩
          rw [HDL.out.2.1]
          go_wp2_with fail
          refine (alone_flush HA2.out (by rw [HDL.out.2.2.1]; omega) (by rw [HDL.out.2.1]; omega) HDF.out).mono ?_
          rw [HDL.out.2.2.2]
          rintro e w8 ⟨rfl, _, hb8⟩
          have HB8 : Hid (Below w.heap.size w w8) := HB2.out.trans hb8
          clear hb8
          go_wp2_with fail
          refine (GA.out w8).mono ?_
          rintro e w9 ⟨rfl, hb9⟩
          have HB9 := Lib.hid hb9; clear hb9
          go_wp2
          go_ret
          exact ⟨rfl, HB8.out.trans (HB9.out.mono HB8.out.size)⟩
        by_cases k0 : k = 0
        · subst k0
          go_wp2_with fail
          refine (GB.out a wr).mono ?_
          rintro e x1 ⟨hp, dp, rfl, hat, hge, hlt, hbel, hcap⟩
          have HATp := Lib.hid hat; have HBp := Lib.hid hbel; have HCp := Lib.hid hcap; have HSp := Lib.hid hlt
          clear hat hge hlt hbel hcap
          have HBN : Hid (Below wr.heap.size wr x1) := HBp.out
          go_wp2_with fail
          refine (alone_read (HA2.out.below HBN.out) ((0 : Nat) : Int)).mono ?_
          rintro e x3 (⟨hbad, _⟩ | ⟨q, Ar, cr, hq, _, rfl, hat, hb3⟩)
          · rw [HDL.out.1] at hbad; omega
          obtain rfl : q = 0 := by omega
          rw [HK0.out] at hat ⊢
          have HB3 : Hid (Below x1.heap.size x1 x3) := hb3
          clear hb3 hq
          have hcn := (HATp.out.below HB3.out).conv dp 9 Try.underlying9
          rw [HLN.out] at hcn
          obtain ⟨X, HXX⟩ : ∃ X, Hid (secB (some (if (0 : Int) = wh % 2 then (B a).take t ++ (B 5).drop t else B a)) = X) := ⟨_, Lib.hid rfl⟩
          have HXL : Hid (X.length = 64) := by
            show _ = _
            have h1 := HLN.out a
            have h2 := HLN.out 5
            rw [← HXX.out]
            show (ite _ _ _ : List Nat).length = 64
            split
            · rw [List.length_append, List.length_take, List.length_drop]; omega
            · exact h1
          rw [HXX.out] at hat ⊢
          have HAR := Lib.hid hat
          clear hat
          rw [HXL.out]
          have HBX : Hid (Below w.heap.size w x3) := HB2.out.trans ((HBN.out.trans (HB3.out.mono HBN.out.size)).mono HB2.out.size)
          have HAX3 := Lib.hid ((HA2.out.below HBN.out).below HB3.out)
          by_cases hkt : (0 : Int) = wh % 2
          · have hkb : (wh % 2 == 0) = true := beq_iff_eq.2 hkt.symm
            have htk : ((B a).take t).length = t := by rw [List.length_take, HLN.out]; omega
            have hdk : ((B 5).drop t).length = 64 - t := by rw [List.length_drop, HLN.out]
            have HTK := Lib.hid htk; have HDK := Lib.hid hdk
            have hadd : ∀ w : World, (Op.stringOp .add (bstr ((B a).take t)) (bstr ((B 5).drop t))).run Try.prog w = .ok (.string (bstr X)) w := fun w => by
              rw [add_bstr _ _ (by omega) (by omega) w, ← HXX.out, if_pos hkt]
              rfl
            clear htk hdk hkt
            have hsh : ∀ w : World, (Instr.slice 41 (.slice (some ⟨hp, 0, none⟩) 64 dp) none (some (.int .i64 (t : Int))) none).run Try.prog w = .ok (.slice (addrHigh (some ⟨hp, 0, none⟩) dp) t dp) w := fun w => slice_high _ _ _ t (by have := HCp.out; omega) w
            go_wp2_with fail
            have HSX : Hid (hp < x3.heap.size) := Nat.lt_of_lt_of_le HSp.out HB3.out.size
            have HAN3 := Lib.hid (HATp.out.below HB3.out)
            have e2 : ∀ e : ExtK (keepBlocks [hp]) x3.drew, (convert 41 9 (.slice (addrHigh (some ⟨hp, 0, none⟩) dp) t dp)).run Try.prog e.val = .ok (.string (bstr ((B a).take t))) e.val := fun e => by
              have h1 : BytesAt e.val (some ⟨hp, 0, none⟩) (B a) := BytesAt.kept (w := x3.drew) HAN3.out e.property.1 (fun _ => e.property.2 hp (by simp))
              have h2 := (h1.high dp t).conv dp 9 Try.underlying9
              rwa [HTK.out] at h2
            refine wp_region_held_lit (keepBlocks [hp]) [(0, true), (1, true), (2, true), (3, true), (4, true), (5, true), (7, true), (6, false), (8, true), (9, false), (10, true), (11, true)] (by kernel_rfl) (by kernel_rfl) (fun _ _ d _ _ h => by cases d <;> exact h) ?_
            simp only [picked, List.map_cons, List.map_nil, List.getElem?_cons_succ, List.getElem?_cons_zero, Option.getD_some]
            repeat (refine wpH_quiet (by rfl) (fun K hK => ?_); go_big_quiet_op; refine hK _ ?_; clear hK K)
            clear e2 hsh
            refine wpH_one (by rfl) (fun K hK => ?_)
            go_simp
            refine (GB.out 5 x3.drew).mono ?_
            rintro e x4 ⟨hv, dv, rfl, hat4, hge4, hlt4, hb4, hcap4⟩
            have HB4 : Hid (Below x3.heap.size x3 x4) := (Below.refl x3.heap.size x3).drew.trans hb4
            have HA4 := Lib.hid hat4; have HC4 := Lib.hid hcap4
            clear hat4 hge4 hlt4 hb4 hcap4
            refine hK _ _ (keep_one HB4.out.size (HB4.out.block hp HSX.out)) ?_
            clear hK K
            have hsl : ∀ w : World, (Instr.slice 41 (.slice (some ⟨hv, 0, none⟩) 64 dv) (some (.int .i64 (t : Int))) none none).run Try.prog w = .ok (.slice (addrLow (some ⟨hv, 0, none⟩) t dv) (64 - t) (dv - t)) w := fun w => slice_low _ _ _ t (by omega) w
            have hc4 := (HA4.out.low dv t (by rw [HLN.out]; exact HC4.out)).conv (dv - t) 9 Try.underlying9
            rw [HDK.out] at hc4
            repeat (refine wpH_quiet (by rfl) (fun K hK => ?_); go_big_quiet_op; refine hK _ ?_; clear hK K)
            refine wpH_one (by rfl) (fun K hK => ?_)
            go_simp
            refine hK _ _ ((keepBlocks [hp]).refl _) ?_
            clear hK K hc4 hsl
            repeat (refine wpH_quiet (by rfl) (fun K hK => ?_); go_big_quiet_op; refine hK _ ?_; clear hK K)
            refine wpH_nil ?_
            clear hadd
            have hcx := (HAR.out.below HB4.out).conv cr 9 Try.underlying9
            rw [HXL.out] at hcx
            go_wp2
            go_roundw
            case measure => simp [intOf]
            exact ⟨1, by omega, by go_num, HAX3.out.below HB4.out, HBX.out.trans (HB4.out.mono HBX.out.size)⟩
          · have hkb : (wh % 2 == 0) = false := beq_eq_false_iff_ne.2 (Ne.symm hkt)
            have hXN : X = B a := by
              rw [← HXX.out, if_neg hkt]
              rfl
            have HXN := Lib.hid hXN
            clear hXN hkt
            have hcx := HAR.out.conv cr 9 Try.underlying9
            rw [HXL.out, HXN.out] at hcx
            go_wp2
            go_roundw
            case measure => simp [intOf]
            exact ⟨1, by omega, by go_num, HAX3.out, HBX.out⟩
        · obtain rfl : k = 1 := by omega
          go_wp2_with fail
          refine (GB.out a wr).mono ?_
          rintro e x1 ⟨hp, dp, rfl, hat, hge, hlt, hbel, hcap⟩
          have HATp := Lib.hid hat; have HBp := Lib.hid hbel; have HCp := Lib.hid hcap; have HSp := Lib.hid hlt
          clear hat hge hlt hbel hcap
          go_wp2_with fail
          refine (GB.out b x1).mono ?_
          rintro e x2 ⟨hn, dn, rfl, hat, hge, hlt, hbel, hcap⟩
          have HATn := Lib.hid hat; have HBn := Lib.hid hbel; have HCn := Lib.hid hcap; have HSn := Lib.hid hlt
          clear hat hge hlt hbel hcap
          have HBN : Hid (Below wr.heap.size wr x2) := HBp.out.trans (HBn.out.mono HBp.out.size)
          go_wp2_with fail
          refine (alone_read (HA2.out.below HBN.out) ((1 : Nat) : Int)).mono ?_
          rintro e x3 (⟨hbad, _⟩ | ⟨q, Ar, cr, hq, _, rfl, hat, hb3⟩)
          · rw [HDL.out.1] at hbad; omega
          obtain rfl : q = 1 := by omega
          rw [HK1.out] at hat ⊢
          have HB3 : Hid (Below x2.heap.size x2 x3) := hb3
          clear hb3 hq
          have hcn := (HATn.out.below HB3.out).conv dn 9 Try.underlying9
          rw [HLN.out] at hcn
          obtain ⟨X, HXX⟩ : ∃ X, Hid (secB (some (if (1 : Int) = wh % 2 then (B b).take t ++ (B 6).drop t else B b)) = X) := ⟨_, Lib.hid rfl⟩
          have HXL : Hid (X.length = 64) := by
            show _ = _
            have h1 := HLN.out b
            have h2 := HLN.out 6
            rw [← HXX.out]
            show (ite _ _ _ : List Nat).length = 64
            split
            · rw [List.length_append, List.length_take, List.length_drop]; omega
            · exact h1
          rw [HXX.out] at hat ⊢
          have HAR := Lib.hid hat
          clear hat
          rw [HXL.out]
          have HBX : Hid (Below w.heap.size w x3) := HB2.out.trans ((HBN.out.trans (HB3.out.mono HBN.out.size)).mono HB2.out.size)
          have HAX3 := Lib.hid ((HA2.out.below HBN.out).below HB3.out)
          by_cases hkt : (1 : Int) = wh % 2
          · have hkb : (wh % 2 == 1) = true := beq_iff_eq.2 hkt.symm
            have htk : ((B b).take t).length = t := by rw [List.length_take, HLN.out]; omega
            have hdk : ((B 6).drop t).length = 64 - t := by rw [List.length_drop, HLN.out]
            have HTK := Lib.hid htk; have HDK := Lib.hid hdk
            have hadd : ∀ w : World, (Op.stringOp .add (bstr ((B b).take t)) (bstr ((B 6).drop t))).run Try.prog w = .ok (.string (bstr X)) w := fun w => by
              rw [add_bstr _ _ (by omega) (by omega) w, ← HXX.out, if_pos hkt]
              rfl
            clear htk hdk hkt
            have hsh : ∀ w : World, (Instr.slice 41 (.slice (some ⟨hn, 0, none⟩) 64 dn) none (some (.int .i64 (t : Int))) none).run Try.prog w = .ok (.slice (addrHigh (some ⟨hn, 0, none⟩) dn) t dn) w := fun w => slice_high _ _ _ t (by have := HCn.out; omega) w
            go_wp2_with fail
            have HSX : Hid (hn < x3.heap.size) := Nat.lt_of_lt_of_le HSn.out HB3.out.size
            have HAN3 := Lib.hid (HATn.out.below HB3.out)
            have e2 : ∀ e : ExtK (keepBlocks [hn]) x3.drew, (convert 41 9 (.slice (addrHigh (some ⟨hn, 0, none⟩) dn) t dn)).run Try.prog e.val = .ok (.string (bstr ((B b).take t))) e.val := fun e => by
              have h1 : BytesAt e.val (some ⟨hn, 0, none⟩) (B b) := BytesAt.kept (w := x3.drew) HAN3.out e.property.1 (fun _ => e.property.2 hn (by simp))
              have h2 := (h1.high dn t).conv dn 9 Try.underlying9
              rwa [HTK.out] at h2
            refine wp_region_held_lit (keepBlocks [hn]) [(0, true), (1, true), (2, true), (3, true), (4, true), (5, true), (7, true), (6, false), (8, true), (9, false), (10, true), (11, true)] (by kernel_rfl) (by kernel_rfl) (fun _ _ d _ _ h => by cases d <;> exact h) ?_
            simp only [picked, List.map_cons, List.map_nil, List.getElem?_cons_succ, List.getElem?_cons_zero, Option.getD_some]
            repeat (refine wpH_quiet (by rfl) (fun K hK => ?_); go_big_quiet_op; refine hK _ ?_; clear hK K)
            clear e2 hsh
            refine wpH_one (by rfl) (fun K hK => ?_)
            go_simp
            refine (GB.out 6 x3.drew).mono ?_
            rintro e x4 ⟨hv, dv, rfl, hat4, hge4, hlt4, hb4, hcap4⟩
            have HB4 : Hid (Below x3.heap.size x3 x4) := (Below.refl x3.heap.size x3).drew.trans hb4
            have HA4 := Lib.hid hat4; have HC4 := Lib.hid hcap4
            clear hat4 hge4 hlt4 hb4 hcap4
            refine hK _ _ (keep_one HB4.out.size (HB4.out.block hn HSX.out)) ?_
            clear hK K
            have hsl : ∀ w : World, (Instr.slice 41 (.slice (some ⟨hv, 0, none⟩) 64 dv) (some (.int .i64 (t : Int))) none none).run Try.prog w = .ok (.slice (addrLow (some ⟨hv, 0, none⟩) t dv) (64 - t) (dv - t)) w := fun w => slice_low _ _ _ t (by omega) w
            have hc4 := (HA4.out.low dv t (by rw [HLN.out]; exact HC4.out)).conv (dv - t) 9 Try.underlying9
            rw [HDK.out] at hc4
            repeat (refine wpH_quiet (by rfl) (fun K hK => ?_); go_big_quiet_op; refine hK _ ?_; clear hK K)
            refine wpH_one (by rfl) (fun K hK => ?_)
            go_simp
            refine hK _ _ ((keepBlocks [hn]).refl _) ?_
            clear hK K hc4 hsl
            repeat (refine wpH_quiet (by rfl) (fun K hK => ?_); go_big_quiet_op; refine hK _ ?_; clear hK K)
            refine wpH_nil ?_
            clear hadd
            have hcx := (HAR.out.below HB4.out).conv cr 9 Try.underlying9
            rw [HXL.out] at hcx
            go_wp2
            go_roundw
            case measure => simp [intOf]
            exact ⟨2, by omega, by go_num, HAX3.out.below HB4.out, HBX.out.trans (HB4.out.mono HBX.out.size)⟩
          · have hkb : (wh % 2 == 1) = false := beq_eq_false_iff_ne.2 (Ne.symm hkt)
            have hXN : X = B b := by
              rw [← HXX.out, if_neg hkt]
              rfl
            have HXN := Lib.hid hXN
            clear hXN hkt
            have hcx := HAR.out.conv cr 9 Try.underlying9
            rw [HXL.out, HXN.out] at hcx
            go_wp2
            go_roundw
            case measure => simp [intOf]
            exact ⟨2, by omega, by go_num, HAX3.out, HBX.out⟩
      --Z
    · have hk2 : k < 2 := by omega
      have HX : Hid ((onD (List.replicate 4 none) ([(0, B 5), (1, B 6)].take k) k).write (k : Int) (B ((k : Int) + 5)) = (onD (List.replicate 4 none) ([(0, B 5), (1, B 6)].take (k + 1)) (k + 1), 0)) := by
        show _ = _
        rw [on_write (by rw [four_none]; omega) (HLN.out _)]
        have : k = 0 ∨ k = 1 := by omega
        rcases this with rfl | rfl <;> rfl
      go_wp2_with fail
      refine (GB.out _ wr).mono ?_
      rintro e w3 ⟨gb, cb, rfl, hat, hge, hlt, hbel, _⟩
      have HAT := Lib.hid hat; have HGE := Lib.hid hge; have HBE := Lib.hid hbel
      clear hat hge hlt hbel
      go_wp2_with fail
      refine (alone_sec (HA2.out.below HBE.out) (by show k ≤ 1099511627776; omega) (by show (List.take k [(0, B 5), (1, B 6)]).length ≤ 1048576; rw [List.length_take]; simp; omega) k gb (B ((k : Int) + 5)) cb HAT.out (by have := HA2.out.lt; have := HGE.out; omega) (HLN.out _)).mono ?_
      rw [HX.out]
      rintro e w4 ⟨rfl, hal, hb4⟩
      have HA4 := Lib.hid hal; have HB4 := Lib.hid hb4
      clear hal hb4
      go_wp2
      go_roundw
      case measure => simp [intOf]; omega
      exact ⟨k + 1, by omega, by go_num, HA4.out, HB2.out.trans ((HBE.out.mono HB2.out.size).trans HB4.out)⟩
end Go.Proofs.Ytnjgjkfdblpddaa
