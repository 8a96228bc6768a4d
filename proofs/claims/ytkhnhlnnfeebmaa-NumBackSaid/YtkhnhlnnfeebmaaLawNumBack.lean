/- The walk of the law NumBack: whatever ints and bytes it is called with, it answers true; what was there stays as it was. Condition: no slice is longer than memory. -/
import Derived.Test.YtkhnhlnnfeebmaaLawNumAwake
import Derived.Test.YtkhnhlnnfeebmaaAppend
import Derived.Test.YtkhnhlnnfeebmaaNumMath2
import Derived.Test.YtkhnhlnnfeebmaaMono
namespace Go.Proofs.Ytkhnhlnnfeebmaa
open Go.RowKit Go.Deep

theorem put_neg (w : World) : Calls Try.prog 9 #[.int .i64 (-1)] w fun e w' => e = .returned (.slice none 0 0) ∧ w = w' := numPut_no (-1) (.inl (by omega)) w

theorem numBack_no (n m : Int) (A : Option Addr) (k c : Nat) (hn : ¬ (0 ≤ n ∧ 0 ≤ m ∧ n ≤ 1099511627776 ∧ m ≤ 1099511627776 ∧ k ≤ 100)) (w : World) :
    Calls Try.prog 4 #[.int .i64 n, .int .i64 m, .slice A k c] w fun e w' => e = .returned (.bool true) ∧ Below w.heap.size w w' := by
  have h5 : n < 0 ∨ (0 ≤ n ∧ m < 0) ∨ (0 ≤ n ∧ 0 ≤ m ∧ 1099511627776 < n) ∨ (0 ≤ n ∧ 0 ≤ m ∧ n ≤ 1099511627776 ∧ 1099511627776 < m) ∨ (0 ≤ n ∧ 0 ≤ m ∧ n ≤ 1099511627776 ∧ m ≤ 1099511627776 ∧ 100 < k) := by omega
  clear hn
  rcases h5 with h1 | ⟨h1, h2⟩ | ⟨h1, h2, h3⟩ | ⟨h1, h2, h3, h4⟩ | ⟨h1, h2, h3, h4, h5⟩
  all_goals
    go_enter Try.func4, Try.ntmps4
    go_wp2_with (first
      | (go_at_call 9; refine (put_neg _).mono ?_; rintro e w' ⟨rfl, rfl⟩)
      | (go_at_call 6; refine (numAwake_any _).mono ?_; rintro e w' ⟨rfl, hb⟩))
    go_ret
    exact ⟨rfl, hb⟩

theorem numBack_close {w w1 w6 w8 w9 : World} (h1 : Below w.heap.size w w1) (h6 : Below w1.heap.size w1 w6) (h8 : Below w6.heap.size w6.drew w8) (h9 : Below w8.heap.size w8 w9) : Below w.heap.size w w9 :=
  ((h1.trans (h6.mono h1.size)).drew.trans (h8.mono (Nat.le_trans h1.size h6.size))).trans (h9.mono (Nat.le_trans (Nat.le_trans h1.size h6.size) h8.size))

set_option maxRecDepth 100000 in
set_option maxHeartbeats 2000000 in
theorem numBack_yes (n m : Nat) (h1 : n ≤ 1099511627776) (h2 : m ≤ 1099511627776) (A : Option Addr) (l : List Nat) (c : Nat) (hl : l.length ≤ 100) (hb : ∀ x ∈ l, x < 256) (w : World) (hA : BytesAt w A l) :
    Calls Try.prog 4 #[.int .i64 n, .int .i64 m, .slice A l.length c] w fun e w' => e = .returned (.bool true) ∧ Below w.heap.size w w' := by
  have HA := Lib.hid hA; clear hA
  have HB := Lib.hid hb; clear hb
  have H1 := Lib.hid h1
  have H2 := Lib.hid h2
  have hs6 := nsz_le n
  have hs0 := nsz_pos n
  obtain ⟨L, HL⟩ : ∃ L, Hid (nput n = L) := ⟨_, rfl⟩
  have HS : Hid (nsz n = L.length) := by show nsz n = L.length; rw [← HL.out, nput_length]
  have HG1 : Hid (ng 0 0 (L ++ l) = (n, L.length, 0)) := by show ng 0 0 (L ++ l) = (n, L.length, 0); rw [← HL.out, ng_nput n h1 l, nput_length]
  have HG2 : Hid (ng 0 0 (L.take (L.length - 1)) = (0, 0, 2)) := by show ng 0 0 (L.take (L.length - 1)) = (0, 0, 2); rw [← HS.out, ← HL.out]; exact ng_short n
  have HLB : Hid (∀ x ∈ L, x < 256) := by show ∀ x ∈ L, x < 256; rw [← HL.out]; exact nput_bytes n
  rw [HS.out] at hs6 hs0
  go_enter Try.func4, Try.ntmps4
  go_wp2_with fail
  refine (numPut_yes n H1.out _).mono ?_
  rintro e w1 ⟨v, rfl, hv⟩
  rw [HL.out] at hv
  have HB1 := Lib.hid hv.below
  obtain ⟨g, c1, rfl, ⟨hc1, hc2⟩, hg1, hg2, hgc, _⟩ := hv
  unfold maxLen at hc2
  have HAT1 := Lib.hid (show BytesAt w1 (some ⟨g, 0, none⟩) L from .inr ⟨g, 0, rfl, hg2, hgc⟩)
  clear hgc
  go_wp2_with (first
    | (at_builtin
       refine wpList_append_bytes rfl (.tmp 45) (.tmp 46) rfl w1.heap.size (.slice (some ⟨w1.heap.size, 0, none⟩) 0 0) 0 [] rfl (World.ownsRow_lit w1 #[] 0 (Nat.le_refl _) (by simp [maxLen]) rfl) _ L c1 rfl (HAT1.out.below ((Below.refl _ _).alloc (Nat.le_refl _) _)) (by omega) (by simp) ?_
       intro v2 w2 hap2
       have HAP2 := Lib.hid hap2
       have hbo2 : Below w1.heap.size w1 w2 ∧ ∀ k, v2.ownBlock = some k → w1.heap.size ≤ k := hap2.below ((Below.refl _ _).alloc (Nat.le_refl _) _) (by simp) (fun k hk => by simp [Value.ownBlock] at hk; omega)
       have HBO2 := Lib.hid hbo2
       clear hap2 hbo2)
    | (at_builtin
       refine wpList_append_bytes rfl (.tmp 47) (.tmp 48) rfl w1.heap.size v2 (0 + L.length) ([] ++ L) rfl HAP2.out.1 _ l c rfl (HA.out.below (HB1.out.trans (HBO2.out.1.mono HB1.out.size))) (by omega) HBO2.out.1.size ?_
       intro v3 w3 hap3
       have HAP3 := Lib.hid hap3
       have hbo3 : Below w1.heap.size w1 w3 ∧ ∀ k, v3.ownBlock = some k → w1.heap.size ≤ k := hap3.below HBO2.out.1 HBO2.out.1.size HBO2.out.2
       have HBO3 := Lib.hid hbo3
       clear hap3 hbo3))
  have HB3 := Lib.hid HBO3.out.1
  have hown := HAP3.out.1
  rw [show 0 + L.length + l.length = (L ++ l).length by simp, List.nil_append] at hown
  obtain ⟨g3, c3, hv3, _, _⟩ := hown.form (by simp; omega)
  subst hv3
  have hat3 := BytesAt.of_own hown rfl
  have G3 := numGet_at c3 (by simp [maxLen]; omega) (fun x hx => (List.mem_append.1 hx).elim (HLB.out x) (HB.out x)) w3 hat3
  rw [HG1.out] at G3
  clear hown hat3 HAP3 HBO3 HAP2 HBO2
  refine G3.mono ?_
  rintro e w4 ⟨rfl, rfl⟩
  clear G3
  have e0 : ((L.length : Int) == 0) = false := beq_eq_false_iff_ne.2 (by omega)
  have HE0 := Lib.hid e0
  go_wp2_with (go_at_call 11; refine (numSize_yes n H1.out _).mono ?_; rintro e w4 ⟨rfl, rfl⟩; rw [HS.out])
  have G4 := numGet_at c1 (by simp [maxLen]; omega) (fun x hx => HLB.out x (List.mem_of_mem_take hx)) _ ((HAT1.out.below HB3.out).take (L.length - 1))
  rw [HG2.out, show (L.take (L.length - 1)).length = L.length - 1 by simp] at G4
  refine G4.mono ?_
  rintro e w5 ⟨rfl, rfl⟩
  clear G4
  go_wp2_with (at_builtin
               refine wpList_append_bytes rfl (.tmp 87) (.tmp 88) rfl w3.heap.size (.slice (some ⟨w3.heap.size, 0, none⟩) 1 1) 1 [128] rfl (World.ownsRow_lit w3 #[.int .u8 128] 1 (Nat.le_refl _) (by simp [maxLen]) rfl) _ L c1 rfl (HAT1.out.below (HB3.out.alloc HB3.out.size _)) (by omega) (by simp) ?_
               intro v6 w6 hap6
               have HAP6 := Lib.hid hap6
               have hbo6 : Below w3.heap.size w3 w6 ∧ ∀ k, v6.ownBlock = some k → w3.heap.size ≤ k := hap6.below ((Below.refl _ _).alloc (Nat.le_refl _) _) (by simp) (fun k hk => by simp [Value.ownBlock] at hk; omega)
               have HBO6 := Lib.hid hbo6
               clear hap6 hbo6)
  have HB6 := Lib.hid (HB3.out.trans (HBO6.out.1.mono HB3.out.size))
  have hown := HAP6.out.1
  rw [show 1 + L.length = ([128] ++ L).length by simp; omega] at hown
  obtain ⟨g6, c6, hv6, _, _⟩ := hown.form (by simp)
  subst hv6
  have hat6 := BytesAt.of_own hown rfl
  have G6 := numGet_at c6 (by simp [maxLen]; omega) (fun x hx => (List.mem_append.1 hx).elim (fun h => by simp at h; omega) (HLB.out x)) w6 hat6
  rw [List.singleton_append, ng_ahead] at G6
  clear hown hat6 HAP6 HBO6
  refine G6.mono ?_
  rintro e w7 ⟨rfl, rfl⟩
  clear G6
  obtain ⟨M, HM⟩ : ∃ M, Hid (nput m = M) := ⟨_, rfl⟩
  have HSM : Hid (nsz m = M.length) := by show nsz m = M.length; rw [← HM.out, nput_length]
  have HINJ : Hid (n ≠ m → bstr M ≠ bstr L) := fun h e => h (nput_inj n m H1.out H2.out (by rw [HL.out, HM.out]; exact (bstr_inj _ _ (by rw [← HM.out]; exact nput_bytes m) HLB.out e).symm))
  have HMONO : Hid (n ≤ m → L.length ≤ M.length) := fun h => by rw [← HS.out, ← HSM.out]; exact nsz_mono n m h
  go_wp2_with fail
  have hcv6 := fun e : Ext w6.drew => (HAT1.out.below (HB6.out.drew.trans (e.property.mono HB6.out.size))).conv c1 9 Try.underlying9
  have h3 : m < n ∨ n = m ∨ n < m := by omega
  rcases h3 with h3 | h3 | h3
  · have hs1 : ((bstr M).toList == (bstr L).toList) = false := bstr_neq (HINJ.out (by omega))
    have hn1 : ((n : Int) == (m : Int)) = false := beq_eq_false_iff_ne.2 (by omega)
    clear HMONO
    refine wp_region_lit [(0, true), (1, true), (2, true), (3, true), (4, true), (5, true), (6, true), (7, true), (8, true), (9, true), (10, true), (11, true), (13, true), (12, false), (14, false), (15, true), (16, true), (17, true), (18, true), (19, true), (22, true), (23, true), (25, true), (26, true), (27, true), (20, false), (21, true), (24, true), (28, true), (29, true), (30, true), (31, false), (32, true), (33, true)] (by kernel_rfl) (by kernel_rfl) (fun _ _ d _ _ h => by cases d <;> exact h) ?_
    simp only [picked, List.map_cons, List.map_nil, List.getElem?_cons_succ, List.getElem?_cons_zero, Option.getD_some]
    repeat (first | (refine wpL_quiet (by rfl) (fun K hK => ?_); go_big_quiet_op; refine hK _ ?_; clear hK K) | (refine wpL_skip (by rfl) ?_; simp only [Act.put, List.setIfInBounds_toArray, List.set_cons_zero, List.set_cons_succ]))
    refine wpL_call (by rfl) (fun K hK => ?_)
    go_simp
    refine (numPut_yes m H2.out _).mono ?_
    rintro e w8 ⟨v, rfl, hv⟩
    rw [HM.out] at hv
    have HB8 := Lib.hid hv.below
    obtain ⟨A8, c8, rfl, hat8⟩ := hv.at_
    have HAT8 := Lib.hid hat8
    clear hv hat8 hcv6
    have hcv8 := fun e : Ext w8 => (HAT8.out.below e.property).conv c8 9 Try.underlying9
    refine hK _ _ HB8.out ?_
    clear hK K
    repeat (first | (refine wpL_quiet (by rfl) (fun K hK => ?_); go_big_quiet_op; refine hK _ ?_; clear hK K) | (refine wpL_skip (by rfl) ?_; simp only [Act.put, List.setIfInBounds_toArray, List.set_cons_zero, List.set_cons_succ]))
    refine wpL_call (by rfl) (fun K hK => ?_)
    go_simp
    refine (numAwake_any _).mono ?_
    rintro e w9 ⟨rfl, hb9⟩
    have HB9 := Lib.hid hb9
    refine hK _ _ hb9 ?_
    clear hK K hb9
    repeat (first | (refine wpL_quiet (by rfl) (fun K hK => ?_); go_big_quiet_op; refine hK _ ?_; clear hK K) | (refine wpL_skip (by rfl) ?_; simp only [Act.put, List.setIfInBounds_toArray, List.set_cons_zero, List.set_cons_succ]))
    refine wpL_nil ?_
    go_wp2
    go_ret
    exact ⟨rfl, (numBack_close HB1.out HB6.out HB8.out HB9.out)⟩
  · subst h3
    obtain rfl : L = M := by rw [← HL.out, ← HM.out]
    clear HINJ HMONO
    refine wp_region_lit [(0, true), (1, true), (2, true), (3, true), (4, true), (5, true), (6, true), (7, true), (8, true), (9, true), (10, true), (11, true), (13, true), (12, false), (14, false), (15, true), (16, true), (17, true), (18, true), (19, true), (22, true), (23, true), (25, true), (26, true), (27, true), (20, false), (21, true), (24, true), (28, true), (29, true), (30, true), (31, false), (32, true), (33, true)] (by kernel_rfl) (by kernel_rfl) (fun _ _ d _ _ h => by cases d <;> exact h) ?_
    simp only [picked, List.map_cons, List.map_nil, List.getElem?_cons_succ, List.getElem?_cons_zero, Option.getD_some]
    repeat (first | (refine wpL_quiet (by rfl) (fun K hK => ?_); go_big_quiet_op; refine hK _ ?_; clear hK K) | (refine wpL_skip (by rfl) ?_; simp only [Act.put, List.setIfInBounds_toArray, List.set_cons_zero, List.set_cons_succ]))
    refine wpL_call (by rfl) (fun K hK => ?_)
    go_simp
    refine (numSize_yes n H1.out _).mono ?_
    rintro e w8 ⟨rfl, rfl⟩
    rw [HS.out]
    refine hK _ _ (Below.refl _ _) ?_
    clear hK K
    repeat (first | (refine wpL_quiet (by rfl) (fun K hK => ?_); go_big_quiet_op; refine hK _ ?_; clear hK K) | (refine wpL_skip (by rfl) ?_; simp only [Act.put, List.setIfInBounds_toArray, List.set_cons_zero, List.set_cons_succ]))
    refine wpL_call (by rfl) (fun K hK => ?_)
    go_simp
    refine (numSize_yes n H1.out _).mono ?_
    rintro e w8 ⟨rfl, rfl⟩
    rw [HS.out]
    refine hK _ _ (Below.refl _ _) ?_
    clear hK K
    repeat (first | (refine wpL_quiet (by rfl) (fun K hK => ?_); go_big_quiet_op; refine hK _ ?_; clear hK K) | (refine wpL_skip (by rfl) ?_; simp only [Act.put, List.setIfInBounds_toArray, List.set_cons_zero, List.set_cons_succ]))
    refine wpL_call (by rfl) (fun K hK => ?_)
    go_simp
    refine (numPut_yes n H1.out _).mono ?_
    rintro e w8 ⟨v, rfl, hv⟩
    rw [HL.out] at hv
    have HB8 := Lib.hid hv.below
    obtain ⟨A8, c8, rfl, hat8⟩ := hv.at_
    have HAT8 := Lib.hid hat8
    clear hv hat8 hcv6
    have hcv8 := fun e : Ext w8 => (HAT8.out.below e.property).conv c8 9 Try.underlying9
    refine hK _ _ HB8.out ?_
    clear hK K
    repeat (first | (refine wpL_quiet (by rfl) (fun K hK => ?_); go_big_quiet_op; refine hK _ ?_; clear hK K) | (refine wpL_skip (by rfl) ?_; simp only [Act.put, List.setIfInBounds_toArray, List.set_cons_zero, List.set_cons_succ]))
    refine wpL_call (by rfl) (fun K hK => ?_)
    go_simp
    refine (numAwake_any _).mono ?_
    rintro e w9 ⟨rfl, hb9⟩
    have HB9 := Lib.hid hb9
    refine hK _ _ hb9 ?_
    clear hK K hb9
    repeat (first | (refine wpL_quiet (by rfl) (fun K hK => ?_); go_big_quiet_op; refine hK _ ?_; clear hK K) | (refine wpL_skip (by rfl) ?_; simp only [Act.put, List.setIfInBounds_toArray, List.set_cons_zero, List.set_cons_succ]))
    refine wpL_nil ?_
    go_wp2
    go_ret
    exact ⟨rfl, (numBack_close HB1.out HB6.out HB8.out HB9.out)⟩
  · have hs1 : ((bstr M).toList == (bstr L).toList) = false := bstr_neq (HINJ.out (by omega))
    have hn1 : ((n : Int) == (m : Int)) = false := beq_eq_false_iff_ne.2 (by omega)
    have hml := HMONO.out (by omega)
    have h3' : ¬ m < n := by omega
    clear HMONO h3
    refine wp_region_lit [(0, true), (1, true), (2, true), (3, true), (4, true), (5, true), (6, true), (7, true), (8, true), (9, true), (10, true), (11, true), (13, true), (12, false), (14, false), (15, true), (16, true), (17, true), (18, true), (19, true), (22, true), (23, true), (25, true), (26, true), (27, true), (20, false), (21, true), (24, true), (28, true), (29, true), (30, true), (31, false), (32, true), (33, true)] (by kernel_rfl) (by kernel_rfl) (fun _ _ d _ _ h => by cases d <;> exact h) ?_
    simp only [picked, List.map_cons, List.map_nil, List.getElem?_cons_succ, List.getElem?_cons_zero, Option.getD_some]
    repeat (first | (refine wpL_quiet (by rfl) (fun K hK => ?_); go_big_quiet_op; refine hK _ ?_; clear hK K) | (refine wpL_skip (by rfl) ?_; simp only [Act.put, List.setIfInBounds_toArray, List.set_cons_zero, List.set_cons_succ]))
    refine wpL_call (by rfl) (fun K hK => ?_)
    go_simp
    refine (numSize_yes n H1.out _).mono ?_
    rintro e w8 ⟨rfl, rfl⟩
    rw [HS.out]
    refine hK _ _ (Below.refl _ _) ?_
    clear hK K
    repeat (first | (refine wpL_quiet (by rfl) (fun K hK => ?_); go_big_quiet_op; refine hK _ ?_; clear hK K) | (refine wpL_skip (by rfl) ?_; simp only [Act.put, List.setIfInBounds_toArray, List.set_cons_zero, List.set_cons_succ]))
    refine wpL_call (by rfl) (fun K hK => ?_)
    go_simp
    refine (numSize_yes m H2.out _).mono ?_
    rintro e w8 ⟨rfl, rfl⟩
    rw [HSM.out]
    refine hK _ _ (Below.refl _ _) ?_
    clear hK K
    repeat (first | (refine wpL_quiet (by rfl) (fun K hK => ?_); go_big_quiet_op; refine hK _ ?_; clear hK K) | (refine wpL_skip (by rfl) ?_; simp only [Act.put, List.setIfInBounds_toArray, List.set_cons_zero, List.set_cons_succ]))
    refine wpL_call (by rfl) (fun K hK => ?_)
    go_simp
    refine (numPut_yes m H2.out _).mono ?_
    rintro e w8 ⟨v, rfl, hv⟩
    rw [HM.out] at hv
    have HB8 := Lib.hid hv.below
    obtain ⟨A8, c8, rfl, hat8⟩ := hv.at_
    have HAT8 := Lib.hid hat8
    clear hv hat8 hcv6
    have hcv8 := fun e : Ext w8 => (HAT8.out.below e.property).conv c8 9 Try.underlying9
    refine hK _ _ HB8.out ?_
    clear hK K
    repeat (first | (refine wpL_quiet (by rfl) (fun K hK => ?_); go_big_quiet_op; refine hK _ ?_; clear hK K) | (refine wpL_skip (by rfl) ?_; simp only [Act.put, List.setIfInBounds_toArray, List.set_cons_zero, List.set_cons_succ]))
    refine wpL_call (by rfl) (fun K hK => ?_)
    go_simp
    refine (numAwake_any _).mono ?_
    rintro e w9 ⟨rfl, hb9⟩
    have HB9 := Lib.hid hb9
    refine hK _ _ hb9 ?_
    clear hK K hb9
    repeat (first | (refine wpL_quiet (by rfl) (fun K hK => ?_); go_big_quiet_op; refine hK _ ?_; clear hK K) | (refine wpL_skip (by rfl) ?_; simp only [Act.put, List.setIfInBounds_toArray, List.set_cons_zero, List.set_cons_succ]))
    refine wpL_nil ?_
    go_wp2
    go_ret
    exact ⟨rfl, (numBack_close HB1.out HB6.out HB8.out HB9.out)⟩
end Go.Proofs.Ytkhnhlnnfeebmaa
