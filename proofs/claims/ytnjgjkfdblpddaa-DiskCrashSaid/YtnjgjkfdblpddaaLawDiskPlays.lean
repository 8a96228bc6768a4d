/- The law DiskPlays: whatever is written and flushed, and wherever the power goes, each call answers, and each sector shows, as the document says. No condition beyond the argument's own bounds. -/
import Derived.Test.YtnjgjkfdblpddaaDiskAwake
import Derived.Test.YtnjgjkfdblpddaaSteps
namespace Go.Proofs.Ytnjgjkfdblpddaa
open Go.RowKit Go.Deep

/-- The disk behind the first k steps. -/
def goD (D : DiskD) (l : List StepV) : Nat → DiskD
  | 0 => D
  | k + 1 => match l[k]? with
    | some s => (stepD (goD D l k) s.kind s.at_ s.n).1
    | none => goD D l k
theorem goD_zero (D : DiskD) (l : List StepV) : goD D l 0 = D := rfl
theorem goD_next {D : DiskD} {l : List StepV} {k : Nat} (h : k < l.length) : goD D l (k + 1) = (stepD (goD D l k) l[k].kind l[k].at_ l[k].n).1 := by rw [goD, List.getElem?_eq_getElem h]
theorem goD_good {D : DiskD} {l : List StepV} {m : Nat} (hD : D.Good m) (hg : ∀ s ∈ l, s.Good) : ∀ k, k ≤ l.length → (goD D l k).Good (m + k)
  | 0, _ => hD
  | k + 1, h => by
    rw [goD_next (by omega)]
    exact good_step (goD_good hD hg k (by omega)) _ _ _ (hg _ (List.getElem_mem (by omega))).2.2.2
attribute [irreducible] goD

set_option maxHeartbeats 4000000 in
set_option maxRecDepth 100000 in
theorem diskPlays_any (n : Int) (A : Option Addr) (l : List StepV) (c : Nat) (hc : l.length ≤ maxLen) (hg : ∀ s ∈ l, s.Good) (w : World) (hat : StepsAt w A l) :
    Calls Try.prog 3 #[.int .i64 n, .slice A l.length c] w fun e w' => e = .returned (.bool true) ∧ Below w.heap.size w w' := by
  have GA := Lib.hid awake_any
  have HAT := Lib.hid hat; have HG := Lib.hid hg
  clear hat hg
  simp only [maxLen] at hc
  by_cases hl : l.length ≤ 60
  · go_enter Try.func3, Try.ntmps3
    go_wp2_with fail
    refine (landNew_any n w).mono ?_
    rintro e w1 (⟨hn, rfl, rfl⟩ | ⟨k, g, rfl, hk1, hk2, rfl, hl1, hg1, hb1⟩)
    · go_wp2_with fail
      refine (refNew_any n w).mono ?_
      rintro e w2 (⟨hn, rfl, rfl⟩ | ⟨k, gm, rfl, hk1, hk2, _⟩)
      rotate_left
      · omega
      go_wp2_with fail
      refine (GA.out w).mono ?_
      rintro e w3 ⟨rfl, hb3⟩
      have HB3 := Lib.hid hb3; clear hb3
      go_wp2
      go_ret
      exact ⟨rfl, HB3.out⟩
    have HL1 := Lib.hid hl1; have HB1 := Lib.hid hb1; have HG1 := Lib.hid hg1
    clear hl1 hb1 hg1
    go_wp2_with fail
    refine (refNew_any k w1).mono ?_
    rintro e w2 (⟨hn, _⟩ | ⟨k', gm, hk', _, _, rfl, hd2, hgm, hlt2, hb2⟩)
    · omega
    obtain rfl : k = k' := by omega
    have HP2 : Hid (Pair w.heap.size g gm (DiskD.new k) (DiskD.new k) w2) := by
      have hs1 := HB1.out.size
      exact ⟨_, HL1.out.below hb2, hd2 _ (.inr rfl) (fun b hb => hb.imp (fun h => h.2) id), fun h => by omega, fun x hx => hx.1, by omega⟩
    have HB2 : Hid (Below w.heap.size w w2) := HB1.out.trans (hb2.mono HB1.out.size)
    have HGD := Lib.hid (good_new hk1 hk2)
    clear hd2 hgm hlt2 hb2 hk'
    go_wp2_with fail
    go_loopw [9] (fun i wr => ∃ k2 : Nat, k2 ≤ l.length ∧ i = .int .i64 k2 ∧ Pair w.heap.size g gm (goD (DiskD.new k) l k2) (goD (DiskD.new k) l k2) wr ∧ Below w.heap.size w wr) (fun i _ => l.length - (intOf i).toNat)
    case atStart => exact ⟨0, Nat.zero_le _, rfl, by rw [goD_zero]; exact HP2.out, HB2.out⟩
    case round =>
      obtain ⟨j, hj, rfl, hp, hb⟩ := hrel
      have HP := Lib.hid hp; have HB := Lib.hid hb
      clear hp hb
      by_cases hlt : j < l.length
      · have HGJ := Lib.hid (goD_good HGD.out HG.out j hj)
        have HGN := Lib.hid (goD_good HGD.out HG.out (j + 1) hlt)
        have HNX := Lib.hid (goD_next (D := DiskD.new k) hlt)
        have HSG := Lib.hid (HG.out _ (List.getElem_mem hlt))
        obtain ⟨ab, ao, rfl, _⟩ := HAT.out.form (by omega)
        obtain ⟨q0, q1, q2⟩ := (HAT.out.below HB.out).at_ hlt
        obtain ⟨S, HS⟩ : ∃ S, Hid (l[j] = S) := ⟨_, Lib.hid rfl⟩
        rw [HS.out] at q0 q1 q2 HNX HSG
        obtain ⟨sk, sa, sn⟩ := S
        simp only at q0 q1 q2 HNX
        obtain ⟨D1, HD1⟩ : ∃ D, Hid (goD (DiskD.new k) l j = D) := ⟨_, Lib.hid rfl⟩
        rw [HD1.out] at HP HGJ HNX
        go_wp2_with fail
        refine (does_any w.heap.size g gm D1 60 (by omega) (HGJ.out.more (by omega)) sk sa sn HSG.out.2.2.2 wr HP.out).mono ?_
        rintro e w4 ⟨rfl, hp4, hb4⟩
        rw [← HNX.out] at hp4
        have HP4 := Lib.hid hp4; have HB4 := Lib.hid hb4
        clear hp4 hb4
        generalize (stepD D1 sk sa sn).2 = z
        go_wp2_with fail
        refine (shows_any w.heap.size g gm _ 61 (by omega) (HGN.out.more (by omega)) w4 HP4.out).mono ?_
        rintro e w5 ⟨rfl, hb5⟩
        have HB5 := Lib.hid hb5; have HP5 := Lib.hid (HP4.out.below hb5)
        clear hb5
        go_wp2
        go_roundw
        case measure => simp [intOf]; omega
        exact ⟨j + 1, by omega, by go_num, HP5.out, HB.out.trans (HB4.out.trans (HB5.out.mono (by have := HB.out.size; have := HB4.out.size; omega)))⟩
      · go_wp2_with fail
        refine (GA.out wr).mono ?_
        rintro e w3 ⟨rfl, hb3⟩
        have HB3 := Lib.hid hb3; clear hb3
        go_wp2
        go_ret
        exact ⟨rfl, HB.out.trans (HB3.out.mono HB.out.size)⟩
  · go_enter Try.func3, Try.ntmps3
    go_wp2_with fail
    refine (GA.out w).mono ?_
    rintro e w3 ⟨rfl, hb3⟩
    have HB3 := Lib.hid hb3; clear hb3
    go_wp2
    go_ret
    exact ⟨rfl, HB3.out⟩
end Go.Proofs.Ytnjgjkfdblpddaa
