/- The contract of alike.Comps: called with any edit it answers its weight, held at a limit; what was there stays as it was. Condition: no slice and no text is longer than memory. -/
import Derived.Test.YtfbkdabnbddgpaaWeights
import Derived.Test.YtfbkdabnbddgpaaComps
namespace Go.Proofs.Ytfbkdabnbddgpaa
open Go.RowKit Go.Deep

def compTerms (c : CompV) : List Nat := [c.text.length, 2]
def compsWeight (limit : Nat) (l : List CompV) : Nat := wts limit 0 (l.map compTerms)

set_option maxRecDepth 100000 in
theorem alikeComps_row (limit : Nat) (b off cap : Nat) (l : List CompV) (hl : l.length ≤ maxLen) (hg : ∀ y ∈ l, y.Good) (w : World) (hc : CompsAt w (some ⟨b, off, none⟩) l) :
    Calls Try.prog 7 #[.slice (some ⟨b, off, none⟩) l.length cap, .int .i64 (limit : Int)] w fun e w' => e = .returned (.int .i64 ((compsWeight limit l : Nat) : Int)) ∧ Below w.heap.size w w' := by
  unfold maxLen at hl
  have HC := Lib.hid hc; clear hc
  have HG := Lib.hid hg; clear hg
  obtain ⟨T, HT⟩ : ∃ T, Hid (compsWeight limit l = T) := ⟨_, rfl⟩
  rw [HT.out]
  go_enter Try.func7, Try.ntmps7
  go_wp2
  go_loopw [5, 6] (fun t i wr => ∃ k m : Nat, k ≤ l.length ∧ i = .int .i64 k ∧ t = .int .i64 (m : Int) ∧ m ≤ 1099511627776 ∧ wts limit m ((l.map compTerms).drop k) = T ∧ Below w.heap.size w wr) (fun _ i _ => l.length - (intOf i).toNat)
  case atStart => exact ⟨0, 0, Nat.zero_le _, rfl, rfl, by omega, HT.out, Below.refl _ _⟩
  case round =>
    obtain ⟨k, m, hk, rfl, rfl, hm, he, hbel⟩ := hrel
    have HE := Lib.hid he; clear he
    have HB := Lib.hid hbel; clear hbel
    by_cases hlt : k < l.length
    · have HW := Lib.hid (HE.out ▸ wts_drop limit m (l.map compTerms) k (by simpa using hlt) : T = _)
      have HX : Hid ((l.map compTerms)[k]'(by simpa using hlt) = [l[k].text.length, 2]) := by show _ = _; rw [List.getElem_map]; rfl
      by_cases hml : m ≤ limit
      · have hcell := ((HC.out.below HB.out).at_ hlt).2.2
        have hxl := (HG.out _ (List.getElem_mem hlt)).2.2.2
        unfold maxLen at hxl
        have hsz := bstr_size l[k].text
        obtain ⟨S, HS0⟩ : ∃ S, Hid (bstr l[k].text = S) := ⟨bstr l[k].text, Lib.hid rfl⟩
        obtain ⟨a, HA⟩ : ∃ a, Hid (l[k].text.length = a) := ⟨l[k].text.length, Lib.hid rfl⟩
        rw [HS0.out] at hcell hsz
        rw [HA.out] at hsz hxl HX
        have HR : Hid (wts limit (capSum m [a, 2]) ((l.map compTerms).drop (k + 1)) = T) := by show _ = _; rw [HW.out, if_pos hml, HX.out]
        obtain ⟨r, HRR⟩ : ∃ r, Hid (capSum m [a, 2] = r) := ⟨_, rfl⟩
        have hr : r ≤ 1099511627776 := by rw [← HRR.out]; exact capSum_held _ m hm
        rw [HRR.out] at HR
        have HS := Lib.hid (fun g hg' => alikeSum_row m (by omega) g 0 2 [a, 2] (by simp [maxLen]) (by simp; omega) _ (nats_lit wr 3 #[.int .i64 (a : Int), .int .i64 2] [a, 2] (fun j x hx => by
          match j, hx with
          | 0, hx => cases hx; rfl
          | 1, hx => cases hx; rfl) g hg'))
        rw [HRR.out] at HS
        clear HW HRR
        go_wp2_with (go_at_call 23; refine (HS.out _ rfl).mono ?_; rintro e w' ⟨rfl, rfl⟩)
        go_roundw
        case rel => exact ⟨k + 1, r, by omega, by go_num, rfl, hr, HR.out, HB.out.alloc HB.out.size _⟩
        case measure => simp [intOf]; omega
      · have HR : Hid (m = T) := by show _ = _; rw [HW.out, if_neg hml]
        have hml' : limit < m := by omega
        go_wp2
        go_ret
        exact ⟨by rw [← HR.out]; rfl, HB.out⟩
    · have HR : Hid (m = T) := by
        show m = T
        rw [← HE.out, List.drop_eq_nil_of_le (by simp; omega), wts_nil]
      go_wp2
      go_ret
      exact ⟨by rw [← HR.out]; rfl, HB.out⟩
theorem alikeComps_nil (limit : Nat) (A : Option Addr) (cap : Nat) (w : World) :
    Calls Try.prog 7 #[.slice A 0 cap, .int .i64 (limit : Int)] w fun e w' => e = .returned (.int .i64 ((compsWeight limit [] : Nat) : Int)) ∧ Below w.heap.size w w' := by
  have HR : Hid (0 = compsWeight limit []) := by show 0 = compsWeight limit []; rw [compsWeight, List.map_nil, wts_nil]
  go_enter Try.func7, Try.ntmps7
  go_wp2
  refine wp_loop_rounds 1 ?_
  rw [rounds_succ]
  go_wp2
  go_ret
  exact ⟨by rw [← HR.out]; rfl, Below.refl _ _⟩
theorem alikeComps_at {A : Option Addr} {l : List CompV} (limit : Nat) (cap : Nat) (hl : l.length ≤ maxLen) (hg : ∀ y ∈ l, y.Good) (w : World) (h : CompsAt w A l) :
    Calls Try.prog 7 #[.slice A l.length cap, .int .i64 (limit : Int)] w fun e w' => e = .returned (.int .i64 ((compsWeight limit l : Nat) : Int)) ∧ Below w.heap.size w w' := by
  cases l with
  | nil => exact alikeComps_nil limit A cap w
  | cons c l =>
    obtain ⟨b, off, rfl, _⟩ := h.form (by simp)
    exact alikeComps_row limit b off cap _ hl hg w h
end Go.Proofs.Ytfbkdabnbddgpaa
