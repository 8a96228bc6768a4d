/- The contract of the document's own writer of numbers, ropewalkref1.Put: called with any int it answers that number's bytes ('nput'), in new memory, or none if it doesn't fit; what was there stays as it was. No condition. -/
import Derived.Test.YtkhnhlnnfeebmaaRefFits
import Derived.Test.YtkhnhlnnfeebmaaNumPut
import Derived.Maps.AppendAt
import Derived.Deep.AppendLies
namespace Go.Proofs.Ytkhnhlnnfeebmaa
open Go.RowKit Go.Deep

theorem refPut_no (n : Int) (h : n < 0 ∨ 1099511627776 < n) (w : World) :
    Calls Try.prog 10 #[.int .i64 n] w fun e w' => e = .returned (.slice none 0 0) ∧ w = w' := by
  go_enter Try.func10, Try.ntmps10
  go_wp2_with (go_at_call 13; refine (refFits_no _ h _).mono ?_; rintro e w' ⟨rfl, rfl⟩)
  go_ret
  exact ⟨rfl, rfl⟩

def u8s (l : List Nat) : List Value := l.map fun x : Nat => .int .u8 (x : Int)
theorem u8s_one (l : List Nat) : ∀ u ∈ u8s l, u.oneCell' = true := by
  intro u hu
  obtain ⟨x, _, rfl⟩ := List.mem_map.1 hu
  rfl
theorem u8s_length (l : List Nat) : (u8s l).length = l.length := by simp [u8s]
theorem newBytes_of_own {w wr : World} {v : Value} {l : List Nat} (h : wr.ownsRow w.heap.size 5 1 v l.length (u8s l)) (h0 : 0 < l.length) (hb : Below w.heap.size w wr) : NewBytes l w v wr := by
  obtain ⟨g, cap, hv, hg, hlt⟩ := h.form h0
  have hcap : l.length ≤ cap ∧ cap ≤ maxLen := by
    rcases h.2 with ⟨h', _⟩ | ⟨g', cap', cur, h', _, _, h1, h2, _⟩
    · rw [hv] at h'; cases h'
    · rw [hv] at h'
      injection h' with _ _ h'
      subst h'
      exact ⟨h1, h2⟩
  subst hv
  refine ⟨g, cap, rfl, hcap, hg, hlt, fun j x hx => ?_, hb⟩
  have hj : j < l.length := (List.getElem?_eq_some_iff.1 hx).1
  rw [Nat.zero_add, h.cellAt j (by omega), u8s, List.getElem?_map, hx]
  rfl
/-- What the loop of the document's writer holds. -/
def RefPutRel (n s : Nat) (w : World) (p : Nat) (v : Value) (wr : World) : Prop :=
  p + 1 ≤ s ∧ wr.ownsRow w.heap.size 5 1 v (p + 1) (u8s (nt n p)) ∧ Below w.heap.size w wr

set_option maxRecDepth 100000 in
theorem refPut_yes (n : Nat) (h1 : n ≤ 1099511627776) (w : World) :
    Calls Try.prog 10 #[.int .i64 n] w fun e w' => ∃ v, e = .returned v ∧ NewBytes (nput n) w v w' := by
  have s6 := nsz_le n
  have s0 := nsz_pos n
  obtain ⟨s, HS⟩ : ∃ s, Hid (nsz n = s) := ⟨_, rfl⟩
  rw [HS.out] at s6 s0
  have eand := band127i n h1
  have h1' := h1
  obtain ⟨i0, hi0, hz0, hz1, hz2⟩ := info_parts u8_info
  have HI0 := Lib.hid hi0; clear hi0
  have HZ0 := Lib.hid hz0; clear hz0
  have HZ1 := Lib.hid hz1; clear hz1
  have HZ2 := Lib.hid hz2; clear hz2
  go_enter Try.func10, Try.ntmps10
  go_wp2_with (go_at_call 13; refine (refFits_yes _ (by omega) (by omega) _).mono ?_; rintro e w' ⟨rfl, rfl⟩)
  go_loopw [0, 3] (fun x b wr => ∃ p : Nat, x = .int .i64 ((n / 128 ^ (p + 1) : Nat) : Int) ∧ RefPutRel n s w p b wr) (fun x _ _ => (intOf x).toNat)
  case atStart => exact ⟨0, by simp, by omega, by have := World.ownsRow_lit (base := w.heap.size) (e := 5) (size := 1) w #[.int .u8 ((n : Int) % 128)] 1 (Nat.le_refl _) (by simp [maxLen]) rfl; simpa [u8s, nt, nb] using this, (Below.refl _ _).alloc (Nat.le_refl _) _⟩
  case round =>
    obtain ⟨p, rfl, hps, hown, hbel⟩ := hrel
    clear eand
    obtain ⟨Y, HY⟩ : ∃ Y, Hid (n / 128 ^ (p + 1) = Y) := ⟨_, rfl⟩
    have hY : Y ≤ 1099511627776 := by rw [← HY.out]; exact Nat.le_trans (Nat.div_le_self _ _) h1'
    rw [HY.out]
    by_cases h0 : Y = 0
    · subst h0
      have hs : p + 1 = s := by
        rcases Nat.lt_or_ge (p + 1) s with h | h
        · have := nsz_div n (p + 1) h1' (by rw [HS.out]; exact h) HY.out
          omega
        · omega
      have HE : Hid (nput n = nt n p) := by
        show nput n = nt n p
        rw [nput, HS.out, ← hs, Nat.add_sub_cancel]
      clear hs
      go_wp2
      go_ret
      refine ⟨_, rfl, ?_⟩
      rw [HE.out]
      exact newBytes_of_own (by rw [nt_length]; exact hown) (by rw [nt_length]; omega) hbel
    · have h0' : 0 < Y := by omega
      clear h0
      have hs : p + 1 < s := by
        rcases Nat.lt_or_ge (p + 1) s with h | h
        · exact h
        · have e : p + 1 = s := by omega
          have := nsz_end n h1'
          rw [HS.out, ← e, HY.out] at this
          omega
      obtain ⟨m, HM⟩ : ∃ m, Hid (Y % 128 = m) := ⟨_, rfl⟩
      have hm : m < 128 := by rw [← HM.out]; omega
      obtain ⟨B, HB⟩ : ∃ B, Hid (m + 128 = B) := ⟨_, rfl⟩
      have eand : bits BinOp.and IntKind.i64 (Y : Int) 127 = (m : Int) := by rw [← HM.out]; exact band127i Y hY
      have eor : bits BinOp.or IntKind.u8 (m : Int) 128 = (B : Int) := by rw [← HB.out]; exact bor128 m hm
      have HN : Hid (nb n (p + 1) = B) := by
        show nb n (p + 1) = B
        rw [nb, if_neg (by omega), HY.out, HM.out, HB.out]
      have HY' : Hid (n / 128 ^ (p + 1 + 1) = Y / 128) := by
        show n / 128 ^ (p + 1 + 1) = Y / 128
        rw [← div_pow_step, HY.out]
      obtain ⟨g, cap, hv, hg, hlt⟩ := hown.form (by omega)
      subst hv
      have HOWN := Lib.hid hown; clear hown
      have hlit := World.ownsRow_lit (base := w.heap.size) (e := 5) (size := 1) wr #[.int .u8 (B : Int)] 1 hbel.size (by simp [maxLen]) rfl
      have HLIT := Lib.hid hlit; clear hlit
      go_wp2_with (at_builtin
                   refine wpList_append_own_at _ rfl (.tmp 19) (.tmp 20) _ rfl w.heap.size 5 i0 _ 1 1 Try.underlying22 HI0.out HZ0.out HZ1.out HZ2.out rfl (by omega)
                     (.slice (some ⟨wr.heap.size, 0, none⟩) 1 1) 1 [.int .u8 (B : Int)] rfl HLIT.out ⟨g, 0, none⟩ (p + 1) cap (u8s (nt n p)) rfl (by rw [u8s_length, nt_length]; omega)
                     ((HOWN.out.alloc _).cells rfl) (u8s_one _) (by simp only [maxLen]; omega) (by omega) (by have := hbel.size; simp; omega) ?_
                   intro v1 w1 hown1 hg1 _ hat1)
      go_roundw
      case rel =>
        refine ⟨p + 1, by rw [HY'.out]; simp, by omega, ?_, ?_⟩
        · have e : u8s (nt n (p + 1)) = [.int .u8 (B : Int)] ++ u8s (nt n p) := by rw [nt, HN.out]; rfl
          rw [e, show p + 1 + 1 = 1 + (p + 1) by omega]
          exact hown1
        · refine (hbel.alloc hbel.size _).grown hg1 (by have := hbel.size; simp; omega) (fun k hk => ?_)
          simp [Value.ownBlock] at hk
          have := hbel.size
          omega
      case measure => simp [intOf]; omega
end Go.Proofs.Ytkhnhlnnfeebmaa
