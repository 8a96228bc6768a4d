/- The document's own Loose, held, Base, Out. Condition: no text of more than 2^40 bytes. -/
import Derived.Test.YtjpjdkdbgjipnaaDoorV47
import Derived.Test.YtjpjdkdbgjipnaaDoorV7
namespace Go.Proofs.YtjpjdkdbgjipnaaDoor
open Go.RowKit Go.Deep
set_option maxRecDepth 100000 in
theorem yy322 (l : List Nat) (hb : ∀ x ∈ l, x < 256) (hl : l.length ≤ 1099511627776) (w : World) :
  Calls Tryd.prog 87 #[.string (bstr l)] w fun e w' => e = .returned (.int .i64 (loose l : Int)) ∧ w = w' := by
 have HP := xh (fun i hi w => yy124 l hb hl i hi w)
 have HB := xh hb; clear hb
 have hsz := bstr_size l
 obtain ⟨T, HT⟩ : ∃ T, Hid (loose l = T) := ⟨_, xh rfl⟩
 have HTL : Hid (T ≤ l.length) := by show _ ≤ _; rw [← HT.out]; exact yy122 l
 rw [HT.out]
 go_enter Tryd.func87, Tryd.ntmps87
 go_wp2
 go_loopw [3, 4] (fun k i wr => ∃ p q : Nat, p ≤ l.length ∧ i = .int .i64 p ∧ k = .int .i64 q ∧ q + loose (l.drop p) = T ∧ w = wr) (fun _ i _ => l.length - (intOf i).toNat)
 case atStart => exact ⟨0, 0, Nat.zero_le _, rfl, rfl, by rw [Nat.zero_add]; exact HT.out, rfl⟩
 case round =>
  obtain ⟨p, q, hp, rfl, rfl, hq, rfl⟩ := hrel
  have HQ := xh hq; clear hq
  by_cases hlt : p < l.length
  ·obtain ⟨c, t, hd⟩ : ∃ c t, l.drop p = c :: t := ⟨l[p], l.drop (p + 1), List.drop_eq_getElem_cons hlt⟩
   have hix := fun w => byte_at HB.out hd w
   have hne : l.drop p ≠ [] := by rw [hd]; simp
   have hs1 := yy79 (l.drop p)
   have hs2 := yy183 hne
   rw [List.length_drop] at hs2
   have HN := xh (yy131 hne)
   rw [List.drop_drop] at HN
   have HPT := xh (fun w => HP.out p hlt w)
   obtain ⟨s, HS⟩ : ∃ s, Hid (yy53 (l.drop p) = s) := ⟨_, xh rfl⟩
   rw [HS.out] at hs1 hs2 HN
   have HQ2 : Hid (q + 1 + loose (l.drop (p + s)) = T) := by show _ = _; have := HQ.out; rw [HN.out] at this; omega
   have hqt : q < 1099511627776 := by have := HQ2.out; have := HTL.out; omega
   have hpl : p + s ≤ l.length := by omega
   clear hne
   have HD := xh hd
   clear hd
   by_cases h0 : c = 0
   ·subst h0
    have hs : s = 1 := by
     rw [← HS.out, yy53, HD.out, show st (0 :: t) = none by rw [yy46, if_pos (by omega), yy43, if_pos (.inr (by unfold May; omega))]]
    subst hs
    go_wp2
    go_roundw
    case rel => exact ⟨p + 1, q + 1, hpl, by go_num, by go_num, HQ2.out, trivial⟩
    case measure => simp [intOf]; omega
   ·have hc : (c == 0) = false := xn h0
    go_wp2_with fail
    refine (HPT.out _).mono ?_
    rintro e w1 ⟨⟨v, t2, hst, rfl⟩ | ⟨hst, rfl⟩, rfl⟩
    ·have hs : (enc v).length = s := by rw [← HS.out, yy53, hst]
     rw [hs]
     clear hst hs
     have hmax : max (s : Int) 1 = (s : Int) := by omega
     go_wp2
     go_roundw
     case rel => exact ⟨p + s, q + 1, hpl, by go_num, by go_num, HQ2.out, trivial⟩
     case measure => simp [intOf]; omega
    ·have hs : s = 1 := by rw [← HS.out, yy53, hst]
     subst hs
     clear hst
     go_wp2
     go_roundw
     case rel => exact ⟨p + 1, q + 1, hpl, by go_num, by go_num, HQ2.out, trivial⟩
     case measure => simp [intOf]; omega
  ·have HE : Hid (q = T) := by
    show q = T
    have := HQ.out
    rw [List.drop_eq_nil_of_le (by omega), yy172] at this
    omega
   go_wp2
   go_ret
   exact ⟨by rw [← HE.out]; rfl, rfl⟩
theorem yy220 (a b : Int) (w : World) :
  Calls Tryd.prog 86 #[.int .i64 a, .int .i64 b] w fun e w' => e = .returned (.int .i64 (hld a b)) ∧ w = w' := by
 rcases (show a < 0 ∨ (0 ≤ a ∧ a ≤ 1099511627776) ∨ 1099511627776 < a by omega) with h | ⟨h, h'⟩ | h <;> rcases (show b < 0 ∨ (0 ≤ b ∧ b ≤ 1099511627776) ∨ 1099511627776 < b by omega) with g | ⟨g, g'⟩ | g <;>
  rcases (show a + b ≤ 1099511627776 ∨ 1099511627776 < a + b by omega) with k | k <;>
  ·go_enter Tryd.func86, Tryd.ntmps86
   go_wp2
   all_goals
    go_ret
    refine ⟨Eq.trans (b := Ending.returned (.int .i64 _)) rfl (congrArg (fun n : Int => Ending.returned (.int .i64 n)) ?_), rfl⟩
    unfold hld
    omega
theorem yy221 (A : Option Addr) (c : Nat) (l : List CompV) (hl : l.length ≤ maxLen) (w : World) (hc : yy6 w A l) :
  Calls Tryd.prog 68 #[.slice A l.length c] w fun e w' => e = .returned (.int .i64 (rBase l)) ∧ w = w' := by
 unfold maxLen at hl
 have HC := xh hc; clear hc
 have GH := xh (fun a b w => yy220 a b w)
 obtain ⟨T, HT⟩ : ∃ T, Hid (rBase l = T) := ⟨_, xh rfl⟩
 rw [HT.out]
 go_enter Tryd.func68, Tryd.ntmps68
 go_wp2
 go_loopw [3, 4] (fun n i wr => ∃ (k : Nat) (m : Int), k ≤ l.length ∧ i = .int .i64 k ∧ n = .int .i64 m ∧ rBase (l.take k) = m ∧ w = wr) (fun _ i _ => l.length - (intOf i).toNat)
 case atStart => exact ⟨0, 0, Nat.zero_le _, rfl, rfl, rfl, rfl⟩
 case round =>
  obtain ⟨k, m, hk, rfl, rfl, hm, rfl⟩ := hrel
  have HM := xh hm; clear hm
  by_cases hlt : k < l.length
  ·obtain ⟨b, off, rfl, _⟩ := HC.out.form (by omega)
   obtain ⟨x0, x1, _⟩ := HC.out.at_ hlt
   have HS := xh (show rBase (l.take (k + 1)) = yy38 m l[k] by rw [List.take_succ_eq_append_getElem hlt, yy268, HM.out])
   generalize l[k] = y at x0 x1 HS
   obtain ⟨kd, n, tx⟩ := y
   simp only at x0 x1
   by_cases h1 : kd = 1 ∨ kd = 3
   ·rw [yy38, if_pos h1] at HS
    have HH := xh (fun w => GH.out m n w)
    obtain ⟨q, HQ⟩ : ∃ q, Hid (hld m n = q) := ⟨_, xh rfl⟩
    have HS2 : Hid (rBase (l.take (k + 1)) = q) := by show _ = _; rw [HS.out]; exact HQ.out
    rw [HQ.out] at HH
    rcases h1 with rfl | rfl
    ·go_wp2_with fail
     refine (HH.out _).mono ?_
     rintro e w1 ⟨rfl, rfl⟩
     go_wp2
     go_roundw
     case rel => exact ⟨k + 1, q, by omega, by go_num, rfl, HS2.out, trivial⟩
     case measure => simp [intOf]; omega
    ·go_wp2_with fail
     refine (HH.out _).mono ?_
     rintro e w1 ⟨rfl, rfl⟩
     go_wp2
     go_roundw
     case rel => exact ⟨k + 1, q, by omega, by go_num, rfl, HS2.out, trivial⟩
     case measure => simp [intOf]; omega
   ·have g1 : (kd == 1) = false := xn fun h => h1 (.inl h)
    have g3 : (kd == 3) = false := xn fun h => h1 (.inr h)
    rw [yy38, if_neg h1] at HS
    clear h1
    go_wp2
    go_roundw
    case rel => exact ⟨k + 1, m, by omega, by go_num, rfl, HS.out, trivial⟩
    case measure => simp [intOf]; omega
  ·have HE : Hid (m = T) := by show _ = _; rw [← HM.out, List.take_of_length_le (by omega), HT.out]
   go_wp2
   go_ret
   exact ⟨by rw [← HE.out]; rfl, rfl⟩
theorem yy478 (A : Option Addr) (c : Nat) (l : List CompV) (hl : l.length ≤ maxLen) (hf : Fine1 l) (w : World) (hc : yy6 w A l) :
  Calls Tryd.prog 69 #[.slice A l.length c] w fun e w' => e = .returned (.int .i64 (rOut l)) ∧ w = w' := by
 unfold maxLen at hl
 have HC := xh hc; clear hc
 have HF := xh hf; clear hf
 have GH := xh (fun a b w => yy220 a b w)
 obtain ⟨T, HT⟩ : ∃ T, Hid (rOut l = T) := ⟨_, xh rfl⟩
 rw [HT.out]
 go_enter Tryd.func69, Tryd.ntmps69
 go_wp2
 go_loopw [3, 4] (fun n i wr => ∃ (k : Nat) (m : Int), k ≤ l.length ∧ i = .int .i64 k ∧ n = .int .i64 m ∧ rOut (l.take k) = m ∧ w = wr) (fun _ i _ => l.length - (intOf i).toNat)
 case atStart => exact ⟨0, 0, Nat.zero_le _, rfl, rfl, rfl, rfl⟩
 case round =>
  obtain ⟨k, m, hk, rfl, rfl, hm, rfl⟩ := hrel
  have HM := xh hm; clear hm
  by_cases hlt : k < l.length
  ·obtain ⟨b, off, rfl, _⟩ := HC.out.form (by omega)
   obtain ⟨x0, x1, x2⟩ := HC.out.at_ hlt
   have HS := xh (show rOut (l.take (k + 1)) = yy54 m l[k] by rw [List.take_succ_eq_append_getElem hlt, yy231, HM.out])
   have HY := xh (HF.out l[k] (List.getElem_mem hlt))
   generalize l[k] = y at x0 x1 x2 HS HY
   obtain ⟨kd, n, tx⟩ := y
   simp only at x0 x1 x2
   by_cases h1 : kd = 1
   ·subst h1
    rw [yy54, if_pos rfl] at HS
    have HH := xh (fun w => GH.out m n w)
    obtain ⟨q, HQ⟩ : ∃ q, Hid (hld m n = q) := ⟨_, xh rfl⟩
    have HS2 : Hid (rOut (l.take (k + 1)) = q) := by show _ = _; rw [HS.out]; exact HQ.out
    rw [HQ.out] at HH
    go_wp2_with fail
    refine (HH.out _).mono ?_
    rintro e w1 ⟨rfl, rfl⟩
    go_wp2
    go_roundw
    case rel => exact ⟨k + 1, q, by omega, by go_num, rfl, HS2.out, trivial⟩
    case measure => simp [intOf]; omega
   ·have g1 : (kd == 1) = false := xn h1
    by_cases h2 : kd = 2
    ·subst h2
     rw [yy54, if_neg h1, if_pos rfl] at HS
     have HL := xh (fun w => yy322 tx HY.out.1.2.2.1 HY.out.2 w)
     have HH := xh (fun w => GH.out m (loose tx : Int) w)
     obtain ⟨z, HZ⟩ : ∃ z, Hid (loose tx = z) := ⟨_, xh rfl⟩
     obtain ⟨q, HQ⟩ : ∃ q, Hid (hld m (loose tx : Int) = q) := ⟨_, xh rfl⟩
     have HS2 : Hid (rOut (l.take (k + 1)) = q) := by show _ = _; rw [HS.out]; exact HQ.out
     rw [HQ.out] at HH
     rw [HZ.out] at HL HH
     go_wp2_with fail
     refine (HL.out _).mono ?_
     rintro e w1 ⟨rfl, rfl⟩
     go_wp2_with fail
     refine (HH.out _).mono ?_
     rintro e w1 ⟨rfl, rfl⟩
     go_wp2
     go_roundw
     case rel => exact ⟨k + 1, q, by omega, by go_num, rfl, HS2.out, trivial⟩
     case measure => simp [intOf]; omega
    ·have g2 : (kd == 2) = false := xn h2
     rw [yy54, if_neg h1, if_neg h2] at HS
     clear h1 h2
     go_wp2
     go_roundw
     case rel => exact ⟨k + 1, m, by omega, by go_num, rfl, HS.out, trivial⟩
     case measure => simp [intOf]; omega
  ·have HE : Hid (m = T) := by show _ = _; rw [← HM.out, List.take_of_length_le (by omega), HT.out]
   go_wp2
   go_ret
   exact ⟨by rw [← HE.out]; rfl, rfl⟩
end Go.Proofs.YtjpjdkdbgjipnaaDoor
