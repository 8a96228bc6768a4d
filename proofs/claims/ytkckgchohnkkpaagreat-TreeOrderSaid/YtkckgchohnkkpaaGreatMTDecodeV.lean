/- The model's own reading of a text at one of its places: the code point there, and how many bytes it has. No condition. -/
import Derived.Test.YtkckgchohnkkpaaGreatMTApWidth
/- The model's own reading of a text at one of its places: the code point there, and how many bytes it has. No condition. -/
namespace Go.Proofs.YtkckgchohnkkpaaGreat
open Go.RowKit Go.Deep

theorem decodeN_enc {v : Nat} (hm : May v) (n a b c d : Nat) (hn : (enc v).length ≤ n) (h0 : ∀ x, (enc v)[0]? = some x → a = x) (h1 : ∀ x, (enc v)[1]? = some x → b = x) (h2 : ∀ x, (enc v)[2]? = some x → c = x) (h3 : ∀ x, (enc v)[3]? = some x → d = x) :
    Lib.decodeN n a b c d = (v, (enc v).length) := by
  have m1 := hm.pos
  have m2 := hm.le
  have m3 := hm.2.2
  rw [enc_length] at hn ⊢
  unfold enc at h0 h1 h2 h3
  by_cases c1 : v < 128
  · rw [if_pos c1] at h0 hn ⊢
    have e0 := h0 _ rfl
    unfold Lib.decodeN
    rw [if_pos (by omega), e0]
  rw [if_neg c1] at h0 h1 h2 h3 hn ⊢
  by_cases c2 : v < 2048
  · rw [if_pos c2] at h0 h1 hn ⊢
    have e0 := h0 _ rfl
    have e1 := h1 _ rfl
    unfold Lib.decodeN
    rw [if_neg (by omega), if_pos (by omega), if_pos (by omega)]
    congr 1
    omega
  rw [if_neg c2] at h0 h1 h2 h3 hn ⊢
  by_cases c3 : v < 65536
  · rw [if_pos c3] at h0 h1 h2 hn ⊢
    have e0 := h0 _ rfl
    have e1 := h1 _ rfl
    have e2 := h2 _ rfl
    unfold Lib.decodeN
    rw [if_neg (by omega), if_neg (by omega), if_pos (by omega), if_pos (by omega)]
    congr 1
    omega
  rw [if_neg c3] at h0 h1 h2 h3 hn ⊢
  have e0 := h0 _ rfl
  have e1 := h1 _ rfl
  have e2 := h2 _ rfl
  have e3 := h3 _ rfl
  unfold Lib.decodeN
  rw [if_neg (by omega), if_neg (by omega), if_neg (by omega), if_pos (by omega), if_pos (by omega)]
  congr 1
  omega
theorem text_drop {l vs : List Nat} (hv : V l vs) {j : Nat} (hj : j < vs.length) : l.drop (E (vs.take j)).length = enc vs[j] ++ E (vs.drop (j + 1)) := by
  rw [← hv.bytes, E_drop, List.drop_eq_getElem_cons hj, E_cons]
theorem decode_val {l vs : List Nat} (hv : V l vs) {j : Nat} (hj : j < vs.length) : Utf8.decode (bstr l) (E (vs.take j)).length = (vs[j], (enc vs[j]).length) := by
  have hd := text_drop hv hj
  have hm := hv.may _ (List.getElem_mem hj)
  have hb := hv.lt
  obtain ⟨p, hp⟩ : ∃ p, (E (vs.take j)).length = p := ⟨_, rfl⟩
  rw [hp] at hd ⊢
  have hlen := congrArg List.length hd
  rw [List.length_drop, List.length_append] at hlen
  have hg : ∀ k x, (enc vs[j])[k]? = some x → ((bstr l).get! (p + k)).toNat = x := fun k x h => by
    have hk := (List.getElem?_eq_some_iff.1 h).1
    refine bstr_get l hb _ _ ?_
    rw [← List.getElem?_drop, hd, List.getElem?_append_left hk, h]
  rw [Lib.decode_at, bstr_size]
  exact decodeN_enc hm _ _ _ _ _ (by omega) (fun x h => by have := hg 0 x h; rwa [Nat.add_zero] at this) (hg 1) (hg 2) (hg 3)
theorem E_take_succ {vs : List Nat} {j : Nat} (hj : j < vs.length) : (E (vs.take (j + 1))).length = (E (vs.take j)).length + (enc vs[j]).length := by
  rw [List.take_succ_eq_append_getElem hj, E_snoc, List.length_append]
theorem E_take_lt {l vs : List Nat} (hv : V l vs) {j : Nat} (hj : j < vs.length) : (E (vs.take j)).length < l.length := by
  have h1 := E_take_succ hj
  have h2 := E_take_len vs (j + 1)
  rw [hv.bytes] at h2
  have := enc_pos vs[j]
  omega
theorem E_take_all {l vs : List Nat} (hv : V l vs) : (E (vs.take vs.length)).length = l.length := by rw [List.take_length, hv.bytes]
end Go.Proofs.YtkckgchohnkkpaaGreat
