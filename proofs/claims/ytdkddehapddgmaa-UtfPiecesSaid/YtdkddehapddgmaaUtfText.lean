/- The contract of utf.Text, over any ints. Condition: no more than 2^30 of them. -/
import Derived.Test.YtdkddehapddgmaaUtfSlice
import Derived.Lib.RuneBytes
namespace Go.Proofs.Ytdkddehapddgmaa
open Go.RowKit Go.Deep

theorem enc_def (v : Nat) : enc v = if v < 128 then [v] else if v < 2048 then [192 + v / 64, 128 + v % 64] else if v < 65536 then [224 + v / 4096, 128 + v / 64 % 64, 128 + v % 64] else [240 + v / 262144, 128 + v / 4096 % 64, 128 + v / 64 % 64, 128 + v % 64] := by unfold enc; rfl
theorem rune_enc {v : Nat} (h : May v) : Lib.runeCells (v : Int) = u8s (enc v) := by
  obtain ⟨h1, h2, h3⟩ := h
  unfold Lib.runeCells u8s
  rw [enc_def]
  split
  · rw [Lib.encodeRuneZ_one (by omega) (by omega)]; rfl
  split
  · rw [Lib.encodeRuneZ_two (by omega) (by omega)]; rfl
  split
  · rw [Lib.encodeRuneZ_three (by omega)]; rfl
  · rw [Lib.encodeRuneZ_four (by omega) (by omega)]; rfl

/-- The ints are code points, all that may be. -/
def VZ (l : List Int) (vs : List Nat) : Prop := (∀ v ∈ vs, May v) ∧ l = nz vs
theorem VZ.nil : VZ [] [] := ⟨by simp, rfl⟩
theorem VZ.snoc {l : List Int} {vs : List Nat} (h : VZ l vs) {v : Nat} (hv : May v) : VZ (l ++ [(v : Int)]) (vs ++ [v]) := by
  refine ⟨fun x hx => ?_, by rw [nz_snoc, h.2]⟩
  rcases List.mem_append.1 hx with hx | hx
  · exact h.1 x hx
  · rw [List.mem_singleton.1 hx]; exact hv
theorem VZ.not {l : List Int} {k : Nat} (hk : k < l.length) (h : ¬ (0 < l[k] ∧ l[k] ≤ 1114111 ∧ (l[k] < 55296 ∨ 57343 < l[k]))) : ¬ ∃ vs, VZ l vs := by
  rintro ⟨vs, hm, rfl⟩
  have hk' : k < vs.length := by simpa [nz] using hk
  have h1 := hm vs[k] (List.getElem_mem hk')
  have h2 : (nz vs)[k] = ((vs[k] : Nat) : Int) := by simp [nz]
  rw [h2] at h
  obtain ⟨a, b, c⟩ := h1
  omega
theorem VZ.uniq {l : List Int} {vs ws : List Nat} (h1 : VZ l vs) (h2 : VZ l ws) : vs = ws := by
  have h := h1.2.symm.trans h2.2
  have inj : ∀ a b : List Nat, nz a = nz b → a = b := by
    intro a
    induction a with
    | nil => intro b hb; cases b with
      | nil => rfl
      | cons y b => simp [nz] at hb
    | cons x a ih => intro b hb; cases b with
      | nil => simp [nz] at hb
      | cons y b =>
        simp only [nz, List.map_cons, List.cons.injEq] at hb
        rw [show x = y by omega, ih b hb.2]
  exact inj _ _ h

/-- What the loop of a text's writer holds. -/
def TextRel (w : World) (l : List Int) (k : Nat) (v : Value) (wr : World) : Prop :=
  ∃ vs, VZ (l.take k) vs ∧ wr.ownsRow w.heap.size 5 1 v (E vs).length (u8s (E vs)) ∧ Below w.heap.size w wr
theorem TextRel.start (w : World) (l : List Int) : TextRel w l 0 (.slice none 0 0) w := ⟨[], VZ.nil, by rw [E_nil]; simpa [u8s] using World.ownsRow_nil _ _ _ _, Below.refl _ _⟩
theorem VZ.length {l : List Int} {vs : List Nat} (h : VZ l vs) : vs.length = l.length := by rw [h.2, nz_length]
theorem E_length_le4 (vs : List Nat) : (E vs).length ≤ 4 * vs.length := by
  induction vs with
  | nil => rw [E_nil]; simp
  | cons v vs ih => rw [E_cons, List.length_append, List.length_cons]; have := enc_le v; omega

set_option maxRecDepth 100000 in
theorem utfText_any {A : Option Addr} {l : List Int} (c : Nat) (hl : l.length ≤ 1073741824) (w : World) (hA : IntsAt w A l) :
    Calls Try.prog 17 #[.slice A l.length c] w fun e w' =>
      ((∃ vs, VZ l vs ∧ e = .returned (.tuple #[.string (bstr (E vs)), .int .i64 0])) ∨ ((¬ ∃ vs, VZ l vs) ∧ e = .returned (.tuple #[.string (bstr []), .int .i64 2]))) ∧ Below w.heap.size w w' := by
  have HA := Lib.hid hA; clear hA
  go_enter Try.func17, Try.ntmps17
  go_wp2
  go_loopw [4, 9] (fun v i wr => ∃ k : Nat, k ≤ l.length ∧ i = .int .i64 k ∧ TextRel w l k v wr) (fun _ i _ => l.length - (intOf i).toNat)
  case atStart => exact ⟨0, Nat.zero_le _, rfl, TextRel.start w l⟩
  case round =>
    obtain ⟨k, hk, rfl, vs, hvs, hown, hbel⟩ := hrel
    have HOWN := Lib.hid hown; clear hown
    have HBEL := Lib.hid hbel; clear hbel
    have HVS := Lib.hid hvs; clear hvs
    obtain ⟨A4, c4, rfl⟩ := own_slice HOWN.out
    by_cases hlt : k < l.length
    · obtain ⟨b, bo, rfl, _⟩ := HA.out.form (by omega)
      have hcell := (HA.out.below HBEL.out).cell hlt
      obtain ⟨x, HX⟩ : ∃ x, Hid (l[k] = x) := ⟨l[k], Lib.hid rfl⟩
      rw [HX.out] at hcell
      by_cases hx : 0 < x ∧ x ≤ 1114111 ∧ (x < 55296 ∨ 57343 < x)
      · obtain ⟨p, rfl⟩ := Int.eq_ofNat_of_zero_le (show 0 ≤ x by omega)
        have hp : May p := by unfold May; omega
        have hpl : p ≤ 1114111 := hp.le
        have HP := Lib.hid hp
        clear hx hp
        have HL4 : Hid ((E vs).length + 4 ≤ 140737488355328) := by
          show (E vs).length + 4 ≤ 140737488355328
          have h1 := E_length_le4 vs
          have h2 := HVS.out.length
          rw [List.length_take] at h2
          omega
        have HC := Lib.hid (Try.utf8_AppendRune_plain w.heap.size (.slice A4 (E vs).length c4) (E vs).length (u8s (E vs)) (p : Int) (by omega) (by omega) wr HOWN.out HL4.out HBEL.out.size)
        rw [rune_enc HP.out, ← u8s_append, ← E_snoc, u8s_length, show (E vs).length + (enc p).length = (E (vs ++ [p])).length by rw [E_snoc, List.length_append]] at HC
        have HN : Hid (VZ (l.take (k + 1)) (vs ++ [p])) := by
          show VZ (l.take (k + 1)) (vs ++ [p])
          rw [List.take_succ_eq_append_getElem hlt, HX.out]
          exact HVS.out.snoc HP.out
        go_wp2_with (go_at_call 28; refine (utfMay_may HP.out _).mono ?_; rintro e w' ⟨rfl, rfl⟩)
        refine HC.out.mono ?_
        rintro e w1 ⟨v', rfl, hown1, o, hgr⟩
        have HOWN1 := Lib.hid hown1; clear hown1
        have HB1 : Hid (Below w.heap.size w w1) := by
          show Below w.heap.size w w1
          exact (HBEL.out.alloc HBEL.out.size o).grown hgr (by have := HBEL.out.size; simp; omega) (fun j hj => (HOWN.out.lt j hj).1)
        clear hgr
        go_wp2
        go_roundw
        case rel => exact ⟨k + 1, by omega, by go_num, vs ++ [p], HN.out, HOWN1.out, HB1.out⟩
        case measure => simp [intOf]; omega
      · have HN := Lib.hid (VZ.not hlt (by rw [HX.out]; exact hx))
        have HNX : Hid (x ≤ 0 ∨ 1114111 < x ∨ (55296 ≤ x ∧ x ≤ 57343)) := by show _ ∨ _; omega
        clear hx
        go_wp2_with (go_at_call 28; refine (utfMay_no _ HNX.out _).mono ?_; rintro e w' ⟨rfl, rfl⟩)
        go_ret2
        exact ⟨.inr ⟨HN.out, rfl⟩, HBEL.out⟩
    · obtain rfl : k = l.length := by omega
      rw [List.take_length] at HVS
      have hcv := (BytesAt.of_own HOWN.out rfl).conv c4 9 Try.underlying9
      go_wp2
      go_ret2
      exact ⟨.inl ⟨vs, HVS.out, rfl⟩, HBEL.out⟩
end Go.Proofs.Ytdkddehapddgmaa
