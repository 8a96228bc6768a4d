/- The contract of utf.walk: through any text, whatever is called at each code point: it tells whether the bytes are a text, and has shown, in order, the code points that were read, each with the place behind it. Conditions: no more than 2^40 bytes; the function that is called keeps what the caller holds. -/
import Derived.Test.YtgenphpaidanhaaUtfWalk
import Derived.Test.YtgenphpaidanhaaBstr
import Derived.Test.YtgenphpaidanhaaBits
namespace Go.Proofs.Ytgenphpaidanhaa
open Go.RowKit

theorem then_goto {K : Act → World → Prop} {Q : Exit → Act → World → Prop} {l : Nat} {a : Act} {w : World} : Exit.then K Q (.goto l) a w = Q (.goto l) a w := rfl

theorem block_goto {id : Nat} {Q : Exit → Act → World → Prop} {l : Nat} {a : Act} {w : World} : Exit.inBlock id Q (.goto l) a w = Q (.goto l) a w := rfl

set_option maxHeartbeats 4000000 in
set_option maxRecDepth 100000 in
theorem utfWalk_any (k : Nat) (hk : ∀ (args : Array Value) (w : World), (callFunc k args).run Try.prog w = .ok (.enter k args) w) (cap : Array Value) (l : List Nat) (hl : l.length ≤ 1099511627776) (hb : ∀ x ∈ l, x < 256) (Inv : List Nat → World → Prop)
    (hshow : ∀ vs v w, Inv vs w → May v → (E (vs ++ [v])).length ≤ l.length → Calls Try.prog k (#[.int .i64 ((v : Nat) : Int), .int .i64 (((E (vs ++ [v])).length : Nat) : Int)] ++ cap) w fun e w' => e = .returned (.tuple #[]) ∧ Inv (vs ++ [v]) w')
    (w : World) (h0 : Inv [] w) :
    Calls Try.prog 27 #[.string (bstr l), .func (.func k) #[] cap] w fun e w' =>
      (∃ vs, V l vs ∧ e = .returned (.bool true) ∧ Inv vs w') ∨ ((¬ ∃ vs, V l vs) ∧ e = .returned (.bool false) ∧ ∃ vs, Inv vs w') := by
  have HS := Lib.hid hshow; clear hshow
  have HB := Lib.hid hb; clear hb
  have HL := Lib.hid hl; clear hl
  have H0 := Lib.hid h0; clear h0
  have HD := Lib.hid (bstr_size l)
  go_enter Try.func27, Try.ntmps27
  go_wp2
  refine wp_scope_four (WJ l (.func (.func k) #[] cap) Inv) (Wμ l.length) ?hJ rfl rfl rfl rfl ?p2 ?p1 ?p3 ?p0 ?first
  case hJ =>
    intro j a w h
    match j, h with
    | 0, _ => omega
    | 1, _ => omega
    | 2, _ => omega
    | 3, _ => omega
    | (n + 4), h => exact h.elim
  case p2 =>
    rintro a w ⟨at_, p, le, lf, hf, hn, vs, hv⟩
    rw [Wμ2]
    have HN := Lib.hid hn; clear hn
    obtain ⟨f, rfl⟩ := hf.out
    clear hf
    go_wp2
    rw [down_ret]
    go_ret
    exact .inr ⟨HN.out, rfl, vs, hv⟩
  case p1 =>
    rintro a w ⟨vs, r, t, at_, p, le, lf, hf, hm, hlr, hr, hat, hd, hst, hp, hle, hv⟩
    rw [Wμ1 hf]
    obtain ⟨m, HM⟩ : ∃ m, Hid (m = 4 * (l.length - at_) + 2) := ⟨_, rfl⟩
    rw [← HM.out]
    obtain ⟨f, rfl⟩ := hf.out
    clear hf
    have HV := Lib.hid hv; clear hv
    have HMM := Lib.hid hm; clear hm
    have HLR := Lib.hid hlr; clear hlr
    have HR := Lib.hid hr; clear hr
    have HT := Lib.hid hd; clear hd
    have HST := Lib.hid hst; clear hst
    rw [fur_zero] at HST
    by_cases h1 : p < le
    · have HN : Hid (¬ ∃ ws, V l ws) := by
        show ¬ ∃ ws, V l ws
        rw [HLR.out]
        exact none_behind HMM.out HR.out (by rw [HST.out, if_pos (.inl h1)])
      go_wp2
      go_step3
      rw [then_goto, down_goto, Wμ2]
      exact ⟨⟨at_, _, _, lf, Fr.mk ⟨rfl, rfl, rfl, rfl, rfl, rfl, rfl⟩, HN.out, vs, HV.out⟩, by have := HM.out; omega⟩
    · by_cases h2 : May p
      · have HS2 : Hid (st r = some (p, t)) := by show st r = some (p, t); rw [HST.out, if_neg (fun hh => hh.elim h1 (fun h => h h2))]
        have HAT : Hid (at_ = (E (vs ++ [p])).length) := by
          show at_ = (E (vs ++ [p])).length
          have h3 := congrArg List.length HLR.out
          rw [(st_some HS2.out).2, ← List.append_assoc, ← E_snoc, List.length_append] at h3
          omega
        go_wp2_with (go_at_call 36; refine (utfMay_may h2 _).mono ?_; rintro e w' ⟨rfl, rfl⟩)
        rw [HAT.out]
        refine (HS.out vs p _ HV.out h2 (by rw [← HAT.out]; omega)).mono ?_
        rintro e w' ⟨rfl, hv'⟩
        have HV' := Lib.hid hv'; clear hv'
        go_wp2
        go_step3
        rw [then_goto, down_goto, Wμ0 (s := .string (bstr l)) (sh := .func (.func k) #[] cap) (at_ := (E (vs ++ [p])).length) (Fr.mk ⟨rfl, rfl, rfl, rfl, rfl, rfl, rfl⟩)]
        refine ⟨⟨vs ++ [p], t, _, _, lf, Fr.mk ⟨rfl, rfl, rfl, rfl, rfl, rfl, rfl⟩, ?_, ?_, HV'.out⟩, ?_⟩
        · intro v hv
          rcases List.mem_append.1 hv with hv | hv
          · exact HMM.out v hv
          · rw [List.mem_singleton.1 hv]; exact h2
        · rw [E_snoc, List.append_assoc, ← (st_some HS2.out).2, ← HLR.out]
        · rw [← HAT.out, HM.out]; omega
      · have HN : Hid (¬ ∃ ws, V l ws) := by
          show ¬ ∃ ws, V l ws
          rw [HLR.out]
          exact none_behind HMM.out HR.out (by rw [HST.out, if_pos (.inr h2)])
        go_wp2_with (go_at_call 36; refine (utfMay_not h2 _).mono ?_; rintro e w' ⟨rfl, rfl⟩)
        go_step3
        rw [then_goto, down_goto, Wμ2]
        exact ⟨⟨at_, _, _, lf, Fr.mk ⟨rfl, rfl, rfl, rfl, rfl, rfl, rfl⟩, HN.out, vs, HV.out⟩, by have := HM.out; omega⟩
  case p3 =>
    rintro P1 a w ⟨vs, r, t, at_, p, le, n, hf, hm, hlr, hr, hat, hd, hst, hp, hle, hv⟩
    have P1' := Lib.hid P1; clear P1
    rw [Wμ3 hf]
    obtain ⟨m, HM⟩ : ∃ m, Hid (m = 4 * (l.length - at_) + 3) := ⟨_, rfl⟩
    rw [← HM.out]
    obtain ⟨f, rfl⟩ := hf.out
    clear hf
    have HV := Lib.hid hv; clear hv
    have HMM := Lib.hid hm; clear hm
    have HLR := Lib.hid hlr; clear hlr
    have HR := Lib.hid hr; clear hr
    have HST := Lib.hid hst; clear hst
    have HP := Lib.hid hp; clear hp
    have hsz := HD.out
    have hl := HL.out
    obtain ⟨n, rfl⟩ : ∃ k, n = k + 1 := ⟨n - 1, by have := HP.out; omega⟩
    cases t with
    | nil =>
      have hat' : at_ = l.length := by simpa using hat
      have HN : Hid (¬ ∃ ws, V l ws) := by
        show ¬ ∃ ws, V l ws
        rw [HLR.out]
        exact none_behind HMM.out HR.out (by rw [HST.out, fur_nil])
      clear hd hat
      subst hat'
      go_wp2
      go_step3
      rw [then_goto, down_goto, Wμ2]
      exact ⟨⟨l.length, _, _, _, Fr.mk ⟨rfl, rfl, rfl, rfl, rfl, rfl, rfl⟩, HN.out, vs, HV.out⟩, by have := HM.out; omega⟩
    | cons d t =>
      have HT := Lib.hid hd
      have hix := fun w => byte_at HB.out hd w
      have hd256 : d < 256 := HB.out d (List.mem_of_mem_drop (by rw [hd]; exact List.mem_cons_self ..))
      clear hd
      have hat' : at_ + t.length + 1 = l.length := by simpa [Nat.add_assoc] using hat
      clear hat
      rw [fur_cons] at HST
      by_cases h2 : d / 64 = 2
      · have HST2 : Hid (st r = fur n (p * 64 + d % 64) le t) := by show st r = _; rw [HST.out, if_pos h2]
        have hne : at_ < l.length := by omega
        have e1 : ((at_ : Int) == (l.length : Int)) = false := beq_eq_false_iff_ne.2 (by omega)
        have e2 : (((d : Int) / 64) != 2) = false := by simp; omega
        obtain ⟨q, HQ⟩ : ∃ q, Hid (q = p * 64 + d % 64) := ⟨_, rfl⟩
        have hp2 : p < 32768 := by have := HP.out; omega
        have eor := bor6 p d hp2
        rw [← HQ.out] at eor
        have hdr : Hid (l.drop (at_ + 1) = t) := by show l.drop (at_ + 1) = t; rw [← List.drop_drop, HT.out]; rfl
        have HST3 : Hid (st r = fur n q le t) := by show _ = _; rw [HST2.out, HQ.out]
        cases n with
        | zero =>
          have hq : Hid (q ≤ 2097152) := by show q ≤ 2097152; rw [HQ.out]; omega
          go_wp2
          go_step3
          rename_i K hK
          refine hK _ _ (down_mono ?_ (P1'.out _ _ ⟨vs, r, t, at_ + 1, q, le, _, Fr.mk ⟨rfl, rfl, rfl, rfl, rfl, rfl, rfl⟩, HMM.out, HLR.out, HR.out, by omega, hdr.out, HST3.out, hq.out, hle, HV.out⟩))
          rw [Wμ1 (s := .string (bstr l)) (sh := .func (.func k) #[] cap) (at_ := at_ + 1) (Fr.mk ⟨rfl, rfl, rfl, rfl, rfl, rfl, rfl⟩), HM.out]
          omega
        | succ n =>
          have hn2 : n < 2 := by have := HP.out; omega
          have hq : Hid (n + 1 = 1 ∧ q < 32768 ∨ n + 1 = 2 ∧ q < 512 ∨ n + 1 = 3 ∧ q < 8) := by show _ ∨ _; rw [HQ.out]; have := HP.out; omega
          go_wp2
          go_step3
          rw [then_goto, down_goto, Wμ3 (s := .string (bstr l)) (sh := .func (.func k) #[] cap) (at_ := at_ + 1) (Fr.mk ⟨rfl, rfl, rfl, rfl, rfl, rfl, rfl⟩)]
          exact ⟨⟨vs, r, t, at_ + 1, q, le, n + 1, Fr.mk ⟨rfl, rfl, rfl, rfl, rfl, rfl, rfl⟩, HMM.out, HLR.out, HR.out, by omega, hdr.out, HST3.out, hq.out, hle, HV.out⟩, by rw [HM.out]; omega⟩
      · have HN : Hid (¬ ∃ ws, V l ws) := by
          show ¬ ∃ ws, V l ws
          rw [HLR.out]
          exact none_behind HMM.out HR.out (by rw [HST.out, if_neg h2])
        have hne : at_ < l.length := by omega
        have e1 : ((at_ : Int) == (l.length : Int)) = false := beq_eq_false_iff_ne.2 (by omega)
        have e2 : (((d : Int) / 64) != 2) = true := by simp; omega
        go_wp2
        go_step3
        rw [then_goto, down_goto, Wμ2]
        exact ⟨⟨at_, _, _, _, Fr.mk ⟨rfl, rfl, rfl, rfl, rfl, rfl, rfl⟩, HN.out, vs, HV.out⟩, by have := HM.out; omega⟩
  case p0 =>
    rintro P3 a w ⟨vs, r, p, le, lf, hf, hm, hlr, hv⟩
    have P3' := Lib.hid P3; clear P3
    rw [Wμ0 hf]
    obtain ⟨m, HM⟩ : ∃ m, Hid (m = 4 * (l.length - (E vs).length) + 1) := ⟨_, rfl⟩
    rw [← HM.out]
    obtain ⟨f, rfl⟩ := hf.out
    clear hf
    have HV := Lib.hid hv; clear hv
    have HMM := Lib.hid hm; clear hm
    have HLR := Lib.hid hlr; clear hlr
    have hsz := HD.out
    have hl := HL.out
    have hlen : (E vs).length + r.length = l.length := by rw [← List.length_append, ← HLR.out]
    cases r with
    | nil =>
      have HVV : Hid (V l vs) := ⟨HMM.out, by rw [HLR.out]; simp⟩
      have e0 : (E vs).length = l.length := by simpa using hlen
      have e1 : (((E vs).length : Int) == (l.length : Int)) = true := by rw [e0]; exact beq_self_eq_true _
      go_wp2
      all_goals rw [down_ret]
      go_ret
      exact .inl ⟨vs, HVV.out, rfl, HV.out⟩
    | cons c t =>
      have hlen' : (E vs).length + t.length + 1 = l.length := by simpa [Nat.add_assoc] using hlen
      clear hlen
      have hd0 : l.drop (E vs).length = c :: t := by rw [HLR.out, List.drop_left' rfl]
      have HDR : Hid (l.drop ((E vs).length + 1) = t) := by show l.drop ((E vs).length + 1) = t; rw [← List.drop_drop, hd0]; rfl
      have hix := fun w => byte_at HB.out hd0 w
      have hc256 : c < 256 := HB.out c (by rw [HLR.out]; simp)
      clear hd0
      have e1 : (((E vs).length : Int) == (l.length : Int)) = false := beq_eq_false_iff_ne.2 (by omega)
      have hne : (E vs).length < l.length := by omega
      by_cases h1 : c < 128
      · have HS2 : Hid (st (c :: t) = fur 0 c 0 t) := by show _ = _; rw [st_cons, if_pos h1]
        go_wp2
        go_step3
        rw [block_goto, then_goto, down_goto, Wμ1 (s := .string (bstr l)) (sh := .func (.func k) #[] cap) (at_ := (E vs).length + 1) (Fr.mk ⟨rfl, rfl, rfl, rfl, rfl, rfl, rfl⟩)]
        exact ⟨⟨vs, c :: t, t, (E vs).length + 1, c, 0, lf, Fr.mk ⟨rfl, rfl, rfl, rfl, rfl, rfl, rfl⟩, HMM.out, HLR.out, by simp, by omega, HDR.out, HS2.out, by omega, by omega, HV.out⟩, by rw [HM.out]; omega⟩
      by_cases h2 : c < 192
      · have HN : Hid (¬ ∃ ws, V l ws) := by
          show ¬ ∃ ws, V l ws
          rw [HLR.out]
          exact none_behind HMM.out (by simp) (by rw [st_cons, if_neg h1, if_pos h2])
        go_wp2
        go_step3
        rw [block_goto, then_goto, down_goto, Wμ2]
        exact ⟨⟨(E vs).length + 1, _, _, _, Fr.mk ⟨rfl, rfl, rfl, rfl, rfl, rfl, rfl⟩, HN.out, vs, HV.out⟩, by have := HM.out; omega⟩
      by_cases h3 : c < 224
      · have HS2 : Hid (st (c :: t) = fur 1 (c % 32) 128 t) := by show _ = _; rw [st_cons, if_neg (by omega), if_neg (by omega), if_pos (by omega)]
        have em : Hid (((c : Int) % 32) = ((c % 32 : Nat) : Int)) := by show ((c : Int) % 32) = ((c % 32 : Nat) : Int); omega
        have hc1 : ¬ c < 128 := by omega
        have hc2 : ¬ c < 192 := by omega
        go_wp2
        go_step3
        rename_i K hK
        rw [em.out]
        refine hK _ _ (down_mono ?_ (P3'.out _ _ ⟨vs, c :: t, t, (E vs).length + 1, c % 32, 128, 1, Fr.mk ⟨rfl, rfl, rfl, rfl, rfl, rfl, rfl⟩, HMM.out, HLR.out, by simp, by omega, HDR.out, HS2.out, by omega, by omega, HV.out⟩))
        rw [Wμ3 (s := .string (bstr l)) (sh := .func (.func k) #[] cap) (at_ := (E vs).length + 1) (Fr.mk ⟨rfl, rfl, rfl, rfl, rfl, rfl, rfl⟩), HM.out]
        omega
      by_cases h4 : c < 240
      · have HS2 : Hid (st (c :: t) = fur 2 (c % 16) 2048 t) := by show _ = _; rw [st_cons, if_neg (by omega), if_neg (by omega), if_neg (by omega), if_pos (by omega)]
        have em : Hid (((c : Int) % 16) = ((c % 16 : Nat) : Int)) := by show ((c : Int) % 16) = ((c % 16 : Nat) : Int); omega
        have hc1 : ¬ c < 128 := by omega
        have hc2 : ¬ c < 192 := by omega
        have hc3 : ¬ c < 224 := by omega
        go_wp2
        go_step3
        rename_i K hK
        rw [em.out]
        refine hK _ _ (down_mono ?_ (P3'.out _ _ ⟨vs, c :: t, t, (E vs).length + 1, c % 16, 2048, 2, Fr.mk ⟨rfl, rfl, rfl, rfl, rfl, rfl, rfl⟩, HMM.out, HLR.out, by simp, by omega, HDR.out, HS2.out, by omega, by omega, HV.out⟩))
        rw [Wμ3 (s := .string (bstr l)) (sh := .func (.func k) #[] cap) (at_ := (E vs).length + 1) (Fr.mk ⟨rfl, rfl, rfl, rfl, rfl, rfl, rfl⟩), HM.out]
        omega
      by_cases h5 : c < 248
      · have HS2 : Hid (st (c :: t) = fur 3 (c % 8) 65536 t) := by show _ = _; rw [st_cons, if_neg (by omega), if_neg (by omega), if_neg (by omega), if_neg (by omega), if_pos (by omega)]
        have em : Hid (((c : Int) % 8) = ((c % 8 : Nat) : Int)) := by show ((c : Int) % 8) = ((c % 8 : Nat) : Int); omega
        have hc1 : ¬ c < 128 := by omega
        have hc2 : ¬ c < 192 := by omega
        have hc3 : ¬ c < 224 := by omega
        have hc4 : ¬ c < 240 := by omega
        go_wp2
        go_step3
        rename_i K hK
        rw [em.out]
        refine hK _ _ (down_mono ?_ (P3'.out _ _ ⟨vs, c :: t, t, (E vs).length + 1, c % 8, 65536, 3, Fr.mk ⟨rfl, rfl, rfl, rfl, rfl, rfl, rfl⟩, HMM.out, HLR.out, by simp, by omega, HDR.out, HS2.out, by omega, by omega, HV.out⟩))
        rw [Wμ3 (s := .string (bstr l)) (sh := .func (.func k) #[] cap) (at_ := (E vs).length + 1) (Fr.mk ⟨rfl, rfl, rfl, rfl, rfl, rfl, rfl⟩), HM.out]
        omega
      · have HN : Hid (¬ ∃ ws, V l ws) := by
          show ¬ ∃ ws, V l ws
          rw [HLR.out]
          exact none_behind HMM.out (by simp) (by rw [st_cons, if_neg (by omega), if_neg (by omega), if_neg (by omega), if_neg (by omega), if_neg (by omega)])
        have hc1 : ¬ c < 128 := by omega
        have hc2 : ¬ c < 192 := by omega
        have hc3 : ¬ c < 224 := by omega
        have hc4 : ¬ c < 240 := by omega
        go_wp2
        go_step3
        rw [block_goto, then_goto, down_goto, Wμ2]
        exact ⟨⟨(E vs).length + 1, _, _, _, Fr.mk ⟨rfl, rfl, rfl, rfl, rfl, rfl, rfl⟩, HN.out, vs, HV.out⟩, by have := HM.out; omega⟩
  case first =>
    intro P0
    have P0' := Lib.hid P0; clear P0
    refine ⟨4 * l.length + 1, ?_⟩
    go_wp2
    go_step3
    rename_i K hK
    refine hK _ _ (down_mono ?_ (P0'.out _ _ ⟨[], l, _, _, _, Fr.mk ⟨rfl, rfl, rfl, by rw [E_nil]; rfl, rfl, rfl, rfl⟩, by simp, by rw [E_nil]; rfl, H0.out⟩))
    rw [Wμ0 (s := .string (bstr l)) (sh := .func (.func k) #[] cap) (at_ := 0) (Fr.mk ⟨rfl, rfl, rfl, rfl, rfl, rfl, rfl⟩)]
    omega
end Go.Proofs.Ytgenphpaidanhaa
