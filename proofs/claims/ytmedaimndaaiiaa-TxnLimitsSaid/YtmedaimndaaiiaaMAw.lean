/- The model's own reading of a text at one of its places: the code point there, and how many bytes it has. No condition. (Merged of 2 texts.) -/
import Derived.Test.YtmedaimndaaiiaaMTOpCount
import Derived.Test.YtmedaimndaaiiaaMUm
/- apply's width: how many bytes the first code points of a text have. Conditions: a text of no more than 2^40 bytes, that has as many code points. -/
namespace Go.Proofs.Ytmedaimndaaiiaa
open Go.RowKit Go.Deep

theorem E_split (vs : List Nat) (k : Nat) : E vs = E (vs.take k) ++ E (vs.drop k) := by rw [← E_append, List.take_append_drop]
theorem E_drop (vs : List Nat) (k : Nat) : (E vs).drop (E (vs.take k)).length = E (vs.drop k) := by
  conv => lhs; rw [E_split vs k]
  exact List.drop_left' rfl
theorem lse_text {v : Nat} (h : May v) (r : List Nat) : lseStep (enc v ++ r) = (enc v).length := by rw [lseStep, st_enc h]
theorem E_take_len (vs : List Nat) (k : Nat) : (E (vs.take k)).length ≤ (E vs).length := by
  conv => rhs; rw [E_split vs k]
  rw [List.length_append]; omega

set_option maxHeartbeats 2000000 in
set_option maxRecDepth 100000 in
theorem width_any {l vs : List Nat} (hv : V l vs) (hl : l.length ≤ 1099511627776) (n : Nat) (hn : n ≤ vs.length) (w : World) :
    Calls Try.prog 75 #[.string (bstr l), .int .i64 (n : Int)] w fun e w' => e = .returned (.int .i64 ((E (vs.take n)).length : Int)) ∧ Below w.heap.size w w' := by
  have hsz := bstr_size l
  have HV := Lib.hid hv; clear hv
  have hnl : n ≤ l.length := Nat.le_trans hn HV.out.length_le
  go_enter Try.func75, Try.ntmps75
  go_wp2
  go_loopw [1, 4, 5] (fun m r a wr => ∃ k q : Nat, k + q = n ∧ r = .int .i64 0 ∧ wr = w.iter (bstr l) (E (vs.take k)).length ∧ m = .int .i64 (q : Int)) (fun _ _ _ wr => l.length - wr.iterPos w.heap.size)
  case atStart => exact ⟨0, n, by omega, rfl, by rw [List.take_zero, E_nil]; rfl, rfl⟩
  case round =>
    obtain ⟨k, q, hkq, rfl, rfl, rfl⟩ := hrel
    obtain ⟨p, HP⟩ : ∃ p, Hid ((E (vs.take k)).length = p) := ⟨_, Lib.hid rfl⟩
    have HPL : Hid (p ≤ l.length) := by show _ ≤ _; rw [← HP.out, ← HV.out.bytes]; exact E_take_len vs k
    rw [HP.out]
    by_cases hlt : p < l.length
    · have hnx : ∀ ty, (Instr.next (.pointer (some ⟨w.heap.size, 0, none⟩)) true ty).run Try.prog (w.iter (bstr l) p) = _ := fun ty => run_next_any w (bstr l) p ty (by rw [hsz]; exact hlt)
      have HW := Lib.hid (decode_lse l HV.out.lt p hlt)
      generalize (Utf8.decode (bstr l) p).1 = v at hnx
      by_cases h0 : q = 0
      · subst h0
        have HE : Hid ((E (vs.take n)).length = p) := by show _ = _; rw [← HP.out, ← hkq]; rfl
        clear HW
        go_wp2
        go_ret
        exact ⟨by rw [HE.out]; rfl, (Below.refl _ _).alloc (Nat.le_refl _) _⟩
      · obtain ⟨q, rfl⟩ : ∃ j, q = j + 1 := ⟨q - 1, by omega⟩
        have hk : k < vs.length := by omega
        have hdr : l.drop p = enc vs[k] ++ E (vs.drop (k + 1)) := by
          rw [← HP.out, ← HV.out.bytes, E_drop, List.drop_eq_getElem_cons hk, E_cons]
        have hm : May vs[k] := HV.out.may _ (List.getElem_mem hk)
        have HS : Hid ((Utf8.decode (bstr l) p).2 = (enc vs[k]).length) := by
          show _ = _
          rw [HW.out, hdr, lse_text hm]
        have HN : Hid ((E (vs.take (k + 1))).length = p + (enc vs[k]).length) := by
          show _ = _
          rw [List.take_succ_eq_append_getElem hk, E_snoc, List.length_append, HP.out]
        have hpos := enc_pos vs[k]
        clear HW hdr hm
        rw [HS.out] at hnx
        have e0 : (((q : Int) + 1) == 0) = false := beq_eq_false_iff_ne.2 (by omega)
        have e1 : (((q + 1 : Nat) : Int) == 0) = false := beq_eq_false_iff_ne.2 (by omega)
        generalize (enc vs[k]).length = s at hnx HN hpos HS
        go_wp2
        go_roundw
        case rel => exact ⟨k + 1, q, by omega, rfl, by rw [HN.out], by go_num⟩
        case measure => simp; omega
    · have hnx : ∀ ty, (Instr.next (.pointer (some ⟨w.heap.size, 0, none⟩)) true ty).run Try.prog (w.iter (bstr l) p) = _ := fun ty => run_next_end w (bstr l) p ty (by rw [hsz]; exact hlt)
      have HE : Hid ((E (vs.take n)).length = l.length) := by
        show _ = _
        have h1 := E_len_take vs k n (by omega)
        have h2 := E_take_len vs n
        rw [HV.out.bytes] at h2
        have := HP.out
        omega
      go_wp2
      go_ret
      exact ⟨by rw [HE.out]; rfl, (Below.refl _ _).alloc (Nat.le_refl _) _⟩
end Go.Proofs.Ytmedaimndaaiiaa

/- The model's own reading of a text at one of its places: the code point there, and how many bytes it has. No condition. -/
namespace Go.Proofs.Ytmedaimndaaiiaa
open Go.RowKit Go.Deep

theorem decodeN_enc {v : Nat} (hm : May v) (n a b c d : Nat) (hn : (enc v).length ≤ n) (h0 : ∀ x, (enc v)[0]? = some x → a = x) (h1 : ∀ x, (enc v)[1]? = some x → b = x) (h2 : ∀ x, (enc v)[2]? = some x → c = x) (h3 : ∀ x, (enc v)[3]? = some x → d = x) :
    Lib.decodeN n a b c d = (v, (enc v).length) := by
  have m1 := hm.pos
  have m2 := hm.le
  have m3 := hm.2.2
  rw [enc_length] at hn ⊢
  unfold enc at h0 h1 h2 h3
  by_cases c1 : v < 128
  · rw [if_pos c1] at h0 hn ⊢
    have e0 := h0 _ rfl
    unfold Lib.decodeN
    rw [if_pos (by omega), e0]
  rw [if_neg c1] at h0 h1 h2 h3 hn ⊢
  by_cases c2 : v < 2048
  · rw [if_pos c2] at h0 h1 hn ⊢
    have e0 := h0 _ rfl
    have e1 := h1 _ rfl
    unfold Lib.decodeN
    rw [if_neg (by omega), if_pos (by omega), if_pos (by omega)]
    congr 1
    omega
  rw [if_neg c2] at h0 h1 h2 h3 hn ⊢
  by_cases c3 : v < 65536
  · rw [if_pos c3] at h0 h1 h2 hn ⊢
    have e0 := h0 _ rfl
    have e1 := h1 _ rfl
    have e2 := h2 _ rfl
    unfold Lib.decodeN
    rw [if_neg (by omega), if_neg (by omega), if_pos (by omega), if_pos (by omega)]
    congr 1
    omega
  rw [if_neg c3] at h0 h1 h2 h3 hn ⊢
  have e0 := h0 _ rfl
  have e1 := h1 _ rfl
  have e2 := h2 _ rfl
  have e3 := h3 _ rfl
  unfold Lib.decodeN
  rw [if_neg (by omega), if_neg (by omega), if_neg (by omega), if_pos (by omega), if_pos (by omega)]
  congr 1
  omega
theorem text_drop {l vs : List Nat} (hv : V l vs) {j : Nat} (hj : j < vs.length) : l.drop (E (vs.take j)).length = enc vs[j] ++ E (vs.drop (j + 1)) := by
  rw [← hv.bytes, E_drop, List.drop_eq_getElem_cons hj, E_cons]
theorem decode_val {l vs : List Nat} (hv : V l vs) {j : Nat} (hj : j < vs.length) : Utf8.decode (bstr l) (E (vs.take j)).length = (vs[j], (enc vs[j]).length) := by
  have hd := text_drop hv hj
  have hm := hv.may _ (List.getElem_mem hj)
  have hb := hv.lt
  obtain ⟨p, hp⟩ : ∃ p, (E (vs.take j)).length = p := ⟨_, rfl⟩
  rw [hp] at hd ⊢
  have hlen := congrArg List.length hd
  rw [List.length_drop, List.length_append] at hlen
  have hg : ∀ k x, (enc vs[j])[k]? = some x → ((bstr l).get! (p + k)).toNat = x := fun k x h => by
    have hk := (List.getElem?_eq_some_iff.1 h).1
    refine bstr_get l hb _ _ ?_
    rw [← List.getElem?_drop, hd, List.getElem?_append_left hk, h]
  rw [Lib.decode_at, bstr_size]
  exact decodeN_enc hm _ _ _ _ _ (by omega) (fun x h => by have := hg 0 x h; rwa [Nat.add_zero] at this) (hg 1) (hg 2) (hg 3)
theorem E_take_succ {vs : List Nat} {j : Nat} (hj : j < vs.length) : (E (vs.take (j + 1))).length = (E (vs.take j)).length + (enc vs[j]).length := by
  rw [List.take_succ_eq_append_getElem hj, E_snoc, List.length_append]
theorem E_take_lt {l vs : List Nat} (hv : V l vs) {j : Nat} (hj : j < vs.length) : (E (vs.take j)).length < l.length := by
  have h1 := E_take_succ hj
  have h2 := E_take_len vs (j + 1)
  rw [hv.bytes] at h2
  have := enc_pos vs[j]
  omega
theorem E_take_all {l vs : List Nat} (hv : V l vs) : (E (vs.take vs.length)).length = l.length := by rw [List.take_length, hv.bytes]
end Go.Proofs.Ytmedaimndaaiiaa
