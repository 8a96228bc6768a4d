/- The law DiskCuts: so many acts are come to, refused ones too, and not one more, for good; what is safe is still read; behind a crash there is power again. No condition beyond the arguments' own bounds. -/
import Derived.Test.YtnjgjkfdblpddaaDiskOn
import Derived.Test.YtnjgjkfdblpddaaSteps
namespace Go.Proofs.Ytnjgjkfdblpddaa
open Go.RowKit Go.Deep

/-- A disk of eight sectors behind two acts, a Cut of n, and c acts more. -/
structure CutInv (n c : Nat) (D : DiskD) : Prop where
  len : D.safe.length = 8
  ops : D.ops = c + 2
  on : c ≤ n → D.off = false ∧ D.left = (n : Int) - (c : Int)
  off : n < c → D.off = true
  good : D.Good (c + 2)
theorem cut_act {n c : Nat} {D : DiskD} (h : CutInv n c D) : D.act.2 = (if c < n then 0 else 7) ∧ D.act.1.ops = c + 3 ∧ (c + 1 ≤ n → D.act.1.off = false ∧ D.act.1.left = (n : Int) - ((c + 1 : Nat) : Int)) ∧ (n < c + 1 → D.act.1.off = true) := by
  have ho := h.ops
  by_cases h1 : c < n
  · obtain ⟨h2, h3⟩ := h.on (by omega)
    rw [DiskD.act, if_neg (by rw [h2, h3]; simp; omega), if_pos h1]
    refine ⟨rfl, by show D.ops + 1 = c + 3; omega, fun _ => ⟨h2, ?_⟩, fun h => by omega⟩
    show (if 0 < D.left then D.left - 1 else D.left) = _
    rw [if_pos (by omega)]
    omega
  · rw [DiskD.act, if_pos ?_, if_neg h1]
    · exact ⟨rfl, by show D.ops + 1 = c + 3; omega, fun h => by omega, fun _ => rfl⟩
    · by_cases h2 : n < c
      · exact .inl (h.off h2)
      · obtain ⟨_, h3⟩ := h.on (by omega)
        exact .inr (by omega)
theorem cut_write {n c : Nat} {D : DiskD} (h : CutInv n c D) (a : Int) {l : List Nat} (hl : l.length = 64) : (D.write a l).2 = (if c < n then (if a < 0 ∨ 8 ≤ a then 1 else 0) else 7) ∧ CutInv n (c + 1) (D.write a l).1 := by
  obtain ⟨h1, h2, h3, h4⟩ := cut_act h
  obtain ⟨hs, _⟩ := act_safe D
  have hg := h.good.write a l
  have hlen := h.len
  unfold DiskD.write at hg ⊢
  by_cases hc : c < n
  · rw [if_pos hc] at h1
    rw [if_neg (by rw [h1]; omega)] at hg ⊢
    by_cases hb : a < 0 ∨ 8 ≤ a
    · rw [if_pos (by omega)] at hg ⊢
      rw [if_pos hc, if_pos hb]
      exact ⟨rfl, by rw [hs]; exact hlen, h2, h3, h4, hg⟩
    · rw [if_neg (by omega)] at hg ⊢
      rw [if_pos hc, if_neg hb]
      exact ⟨rfl, hlen, h2, h3, h4, hg⟩
  · rw [if_neg hc] at h1
    rw [if_pos (by rw [h1]; omega)] at hg ⊢
    rw [if_neg hc]
    exact ⟨h1, by rw [hs]; exact hlen, h2, h3, h4, hg⟩
theorem cut_flush {n c : Nat} {D : DiskD} (h : CutInv n c D) : D.flush.2 = (if c < n then 0 else 7) ∧ CutInv n (c + 1) D.flush.1 := by
  obtain ⟨h1, h2, h3, h4⟩ := cut_act h
  obtain ⟨hs, _⟩ := act_safe D
  have hg := h.good.flush
  have hlen := h.len
  unfold DiskD.flush at hg ⊢
  by_cases hc : c < n
  · rw [if_pos hc] at h1
    rw [if_neg (by rw [h1]; omega)] at hg ⊢
    rw [if_pos hc]
    exact ⟨rfl, by rw [show _ = (fold D.cache D.safe).length from rfl, fold_length]; exact hlen, h2, h3, h4, hg⟩
  · rw [if_neg hc] at h1
    rw [if_pos (by rw [h1]; omega)] at hg ⊢
    rw [if_neg hc]
    exact ⟨h1, by rw [hs]; exact hlen, h2, h3, h4, hg⟩

set_option maxHeartbeats 8000000 in
set_option maxRecDepth 100000 in
theorem diskCuts_any (n : Int) (A : Option Addr) (l : List StepV) (c : Nat) (hc : l.length ≤ maxLen) (hg : ∀ s ∈ l, s.Good) (w : World) (hat : StepsAt w A l) :
    Calls Try.prog 7 #[.int .i64 n, .slice A l.length c] w fun e w' => e = .returned (.bool true) ∧ Below w.heap.size w w' := by
  have GA := Lib.hid awake_any
  have HSA := Lib.hid hat; have HSG := Lib.hid hg
  clear hat hg
  simp only [maxLen] at hc
  by_cases h1 : n < 0
  · go_enter Try.func7, Try.ntmps7
    go_wp2_with fail
    refine (GA.out w).mono ?_
    rintro e w3 ⟨rfl, hb3⟩
    have HB3 := Lib.hid hb3; clear hb3
    go_wp2
    go_ret
    exact ⟨rfl, HB3.out⟩
  by_cases h2 : 40 < n
  · go_enter Try.func7, Try.ntmps7
    go_wp2_with fail
    refine (GA.out w).mono ?_
    rintro e w3 ⟨rfl, hb3⟩
    have HB3 := Lib.hid hb3; clear hb3
    go_wp2
    go_ret
    exact ⟨rfl, HB3.out⟩
  by_cases h3 : 40 < l.length
  · go_enter Try.func7, Try.ntmps7
    go_wp2_with fail
    refine (GA.out w).mono ?_
    rintro e w3 ⟨rfl, hb3⟩
    have HB3 := Lib.hid hb3; clear hb3
    go_wp2
    go_ret
    exact ⟨rfl, HB3.out⟩
  obtain ⟨N, rfl⟩ : ∃ N : Nat, n = (N : Int) := ⟨n.toNat, by omega⟩
  have GB := Lib.hid (fun n w => block_sec n w)
  have HLN := Lib.hid (fun n => blks_length 64 n)
  obtain ⟨B, HB⟩ : ∃ B : Int → List Nat, Hid (blks 64 = B) := ⟨_, Lib.hid rfl⟩
  rw [HB.out] at GB HLN
  go_enter Try.func7, Try.ntmps7
  go_wp2_with fail
  refine (alone_new (n := 8) (by omega) (by omega) w).mono ?_
  rintro e w1 ⟨g, rfl, hal, hb1⟩
  have HAL := Lib.hid hal; have HB1 := Lib.hid hb1
  clear hal hb1
  go_wp2_with fail
  refine (GB.out 9 w1).mono ?_
  rintro e w2 ⟨ga, ca, rfl, hat, hge, hlt, hbel, _⟩
  have HATa := Lib.hid hat; have HGEa := Lib.hid hge; have HBEa := Lib.hid hbel
  clear hat hge hlt hbel
  go_wp2_with fail
  refine (alone_sec (HAL.out.below HBEa.out) (by show 0 ≤ 1099511627776; omega) (by show 0 ≤ 1048576; omega) ((2 : Nat) : Int) ga (B 9) ca HATa.out (by have := HAL.out.lt; have := HGEa.out; omega) (HLN.out _)).mono ?_
  rw [on_write (by show (2 : Nat) < 8; omega) (HLN.out _)]
  rintro e w3 ⟨rfl, hal, hb3⟩
  have HA3 : Hid (Alone w.heap.size g (onD (List.replicate 8 none) [(2, B 9)] 1) w3) := hal
  have HB3 : Hid (Below w.heap.size w w3) := HB1.out.trans ((HBEa.out.mono HB1.out.size).trans hb3)
  clear hal hb3 HAL HB1
  have HF1 : Hid ((onD (List.replicate 8 none) [(2, B 9)] 1).Fit) := ⟨by show 0 < 8; omega, by show 8 ≤ 65536; omega, fun o ho => by rw [List.eq_of_mem_replicate ho]; simp [secB, noughts], fun p hp => by
    rw [List.mem_singleton.1 hp]
    exact ⟨by show (2 : Nat) < 8; omega, HLN.out 9⟩⟩
  go_wp2_with fail
  refine (alone_flush HA3.out (by show 1 ≤ 1099511627776; omega) (by show 1 ≤ 1048576; omega) HF1.out).mono ?_
  rw [on_flush]
  rintro e w4 ⟨rfl, hal, hb4⟩
  have HA4 := Lib.hid hal
  have HB4 : Hid (Below w.heap.size w w4) := HB3.out.trans hb4
  clear hal hb4 HA3 HB3
  go_wp2_with fail
  refine (alone_cut HA4.out N (by omega)).mono ?_
  rintro e w5 ⟨rfl, hal, hb5⟩
  have HA5 := Lib.hid hal
  have HB5 : Hid (Below w.heap.size w w5) := HB4.out.trans hb5
  have HI0 : Hid (CutInv N 0 ((onD (fold [(2, B 9)] (List.replicate 8 none)) [] 2).cut N)) := by
    refine ⟨rfl, rfl, fun _ => ⟨rfl, ?_⟩, fun h => by omega, ⟨⟨by show 0 < 8; omega, by show 8 ≤ 65536; omega, fun o ho => ?_, fun p hp => by cases hp⟩, Nat.le_refl _, by show 0 ≤ 2; omega, ?_⟩⟩
    · show max (N : Int) 0 = _
      omega
    · refine fold_secs [(2, B 9)] _ (fun p hp => by rw [List.mem_singleton.1 hp]; exact HLN.out 9) (fun o ho => ?_) o ho
      rw [List.eq_of_mem_replicate ho]
      simp [secB, noughts]
    · show -1 ≤ max (N : Int) 0 ∧ max (N : Int) 0 ≤ 9223372036854775807
      omega
  clear hal hb5 HA4 HB4
  generalize (onD (fold [(2, B 9)] (List.replicate 8 none)) [] 2).cut N = D0 at HA5 HI0
  go_wp2_with fail
  go_loopw [7, 8] (fun k i wr => ∃ (j m : Nat) (D : DiskD), j ≤ l.length ∧ m ≤ j ∧ i = .int .i64 j ∧ k = .int .i64 m ∧ CutInv N m D ∧ Alone w.heap.size g D wr ∧ Below w.heap.size w wr) (fun _ i _ => l.length - (intOf i).toNat)
  case atStart => exact ⟨0, 0, D0, Nat.zero_le _, Nat.le_refl _, rfl, rfl, HI0.out, HA5.out, HB5.out⟩
  case round =>
    obtain ⟨j, m, D, hj, hm, rfl, rfl, hi, hal, hb⟩ := hrel
    have HI := Lib.hid hi; have HA := Lib.hid hal; have HBW := Lib.hid hb
    clear hi hal hb
    by_cases hlt : j < l.length
    · have HSS := Lib.hid (HSG.out _ (List.getElem_mem hlt))
      obtain ⟨ab, ao, rfl, hab⟩ := HSA.out.form (by omega)
      have HAB := Lib.hid hab
      obtain ⟨q0, q1, q2⟩ := (HSA.out.below HBW.out).at_ hlt
      obtain ⟨S, HS⟩ : ∃ S, Hid (l[j] = S) := ⟨_, Lib.hid rfl⟩
      rw [HS.out] at q0 q1 q2 HSS
      obtain ⟨sk, sa, sn⟩ := S
      simp only at q0 q1 q2
      clear hab
      by_cases k1 : sk = 1
      · subst k1
        go_wp2_with fail
        have e1 : ∀ e : ExtK (keepBlocks [ab]) wr.drew, e.val.cell? ⟨ab, ao + j * 3 + 1, none⟩ = some (.int .i64 sa) := fun e => (cell_of_block (e.property.2 ab (by simp)) _).trans q1
        have e2 : ∀ e : ExtK (keepBlocks [ab]) wr.drew, e.val.cell? ⟨ab, ao + j * 3 + 2, none⟩ = some (.int .i64 sn) := fun e => (cell_of_block (e.property.2 ab (by simp)) _).trans q2
        refine wp_region_held_lit (keepBlocks [ab]) [(0, true), (1, true), (2, true), (3, true), (4, true), (5, true), (6, true), (7, true), (8, true), (9, true), (10, true), (11, false), (12, false), (13, true)] (by kernel_rfl) (by kernel_rfl) (fun _ _ d _ _ h => by cases d <;> exact h) ?_
        simp only [picked, List.map_cons, List.map_nil, List.getElem?_cons_succ, List.getElem?_cons_zero, Option.getD_some]
        repeat (refine wpH_quiet (by rfl) (fun K hK => ?_); go_big_quiet_op; refine hK _ ?_; clear hK K)
        clear e1 e2 q0 q1 q2
        have hbw := HBW.out.size
        refine wpH_one (by rfl) (fun K hK => ?_)
        go_simp
        refine (GB.out sn wr.drew).mono ?_
        rintro e w7 ⟨gb, cb, rfl, hat, hge, hlt7, hbel, _⟩
        have HB7 : Hid (Below wr.heap.size wr w7) := (Below.refl wr.heap.size wr).drew.trans hbel
        have HAT7 := Lib.hid hat
        have HGE7 : Hid (wr.heap.size ≤ gb) := hge
        clear hat hge hlt7 hbel
        refine hK _ _ (keep_one HB7.out.size (HB7.out.block ab (by have := HAB.out; omega))) ?_
        clear hK K
        refine wpH_one (by rfl) (fun K hK => ?_)
        go_simp
        refine (alone_sec (HA.out.below HB7.out) (Nat.le_trans HI.out.good.ops (by omega)) (Nat.le_trans HI.out.good.cached (by omega)) sa gb (B sn) cb HAT7.out (by have := HA.out.lt; have := HGE7.out; omega) (HLN.out _)).mono ?_
        rintro e w8 ⟨rfl, hal, hb8⟩
        obtain ⟨hz, hci⟩ := cut_write HI.out sa (HLN.out sn)
        have HZ := Lib.hid hz; have HCI := Lib.hid hci
        have HA9 := Lib.hid hal
        have HB9 : Hid (Below w.heap.size w w8) := HBW.out.trans ((HB7.out.mono HBW.out.size).trans hb8)
        refine hK _ _ (keep_one hb8.size (hb8.block ab HAB.out)) ?_
        clear hK K hz hci hal hb8
        generalize (D.write sa (B sn)).2 = z at HZ ⊢
        generalize (D.write sa (B sn)).1 = D9 at HCI HA9
        repeat (refine wpH_quiet (by rfl) (fun K hK => ?_); go_big_quiet_op; refine hK _ ?_; clear hK K)
        refine wpH_nil ?_
        have hab8 := HAB.out
        obtain ⟨q0, q1, q2⟩ := (HSA.out.below HB9.out).at_ hlt
        rw [HS.out] at q0 q1 q2
        simp only at q0 q1 q2
        by_cases hmN : m < N
        · rw [if_pos hmN] at HZ
          by_cases hs0 : sa < 0
          · have hz : z = 1 := by have := HZ.out; rw [if_pos (.inl hs0)] at this; exact this
            subst hz
            go_wp2
            go_roundw
            case measure => simp [intOf]; omega
            exact ⟨j + 1, m + 1, D9, by omega, by omega, by go_num, by go_num, HCI.out, HA9.out, HB9.out⟩
          by_cases hs8 : 8 ≤ sa
          · have hz : z = 1 := by have := HZ.out; rw [if_pos (.inr hs8)] at this; exact this
            subst hz
            go_wp2
            go_roundw
            case measure => simp [intOf]; omega
            exact ⟨j + 1, m + 1, D9, by omega, by omega, by go_num, by go_num, HCI.out, HA9.out, HB9.out⟩
          have hz : z = 0 := by have := HZ.out; rw [if_neg (by omega)] at this; exact this
          subst hz
          go_wp2
          go_roundw
          case measure => simp [intOf]; omega
          exact ⟨j + 1, m + 1, D9, by omega, by omega, by go_num, by go_num, HCI.out, HA9.out, HB9.out⟩
        have hz : z = 7 := by have := HZ.out; rw [if_neg hmN] at this; exact this
        subst hz
        clear HZ
        by_cases hs0 : sa < 0
        · go_wp2
          go_roundw
          case measure => simp [intOf]; omega
          exact ⟨j + 1, m + 1, D9, by omega, by omega, by go_num, by go_num, HCI.out, HA9.out, HB9.out⟩
        by_cases hs8 : 8 ≤ sa
        · go_wp2
          go_roundw
          case measure => simp [intOf]; omega
          exact ⟨j + 1, m + 1, D9, by omega, by omega, by go_num, by go_num, HCI.out, HA9.out, HB9.out⟩
        go_wp2
        go_roundw
        case measure => simp [intOf]; omega
        exact ⟨j + 1, m + 1, D9, by omega, by omega, by go_num, by go_num, HCI.out, HA9.out, HB9.out⟩
      · have hk1 : (sk == 1) = false := beq_eq_false_iff_ne.2 k1
        have hk1' : (sk != 1) = true := by rw [bne_iff_ne]; exact k1
        by_cases k2 : sk = 2
        · subst k2
          go_wp2_with fail
          refine (alone_flush HA.out (Nat.le_trans HI.out.good.ops (by omega)) (Nat.le_trans HI.out.good.cached (by omega)) HI.out.good.fit).mono ?_
          rintro e w8 ⟨rfl, hal, hb8⟩
          obtain ⟨hz, hci⟩ := cut_flush HI.out
          have HZ := Lib.hid hz; have HCI := Lib.hid hci
          have HA9 := Lib.hid hal
          have HB9 : Hid (Below w.heap.size w w8) := HBW.out.trans hb8
          clear hz hci hal hb8 q0 q1 q2
          generalize D.flush.2 = z at HZ ⊢
          generalize D.flush.1 = D9 at HCI HA9
          obtain ⟨q0, q1, q2⟩ := (HSA.out.below HB9.out).at_ hlt
          rw [HS.out] at q0 q1 q2
          simp only at q0 q1 q2
          by_cases hmN : m < N
          · have hz : z = 0 := by have := HZ.out; rw [if_pos hmN] at this; exact this
            subst hz
            go_wp2
            go_roundw
            case measure => simp [intOf]; omega
            exact ⟨j + 1, m + 1, D9, by omega, by omega, by go_num, by go_num, HCI.out, HA9.out, HB9.out⟩
          have hz : z = 7 := by have := HZ.out; rw [if_neg hmN] at this; exact this
          subst hz
          go_wp2
          go_roundw
          case measure => simp [intOf]; omega
          exact ⟨j + 1, m + 1, D9, by omega, by omega, by go_num, by go_num, HCI.out, HA9.out, HB9.out⟩
        have hk2' : (sk != 2) = true := by rw [bne_iff_ne]; exact k2
        go_wp2
        go_roundw
        case measure => simp [intOf]; omega
        exact ⟨j + 1, m, D, by omega, by omega, by go_num, rfl, HI.out, HA.out, HBW.out⟩
    · obtain rfl : j = l.length := by omega
      go_wp2_with fail
      refine (alone_crash HA.out (Nat.le_trans HI.out.good.cached (by omega)) HI.out.good.fit none [] 0 .nil).mono ?_
      rintro e w6 ⟨gx, rfl, hax, had, hb6, hgx⟩
      have HAX := Lib.hid hax; have HAD := Lib.hid had
      have HB6 : Hid (Below w.heap.size w w6) := HBW.out.trans (hb6.mono HBW.out.size)
      have HNG : Hid (wr.heap.size ≤ gx) := hgx
      clear hax had hb6 hgx
      go_wp2_with fail
      refine (alone_ops HAD.out).mono ?_
      rintro e w' ⟨rfl, rfl⟩
      rw [HI.out.ops]
      go_wp2_with fail
      refine (alone_read HAD.out 7).mono ?_
      rintro e w7 (⟨hbad, _⟩ | ⟨q, Ar, cr, hq, _, rfl, hat, hb7⟩)
      · rw [HI.out.len] at hbad; omega
      obtain rfl : q = 7 := by omega
      have HXL : Hid ((secB (D.look 7)).length = 64) := by
        obtain ⟨O, hl, _⟩ := HAD.out
        obtain ⟨_, _, _, _, _, _, _, _, _, _, _, _, _, _, _, _, _, _, _, hn, _, _⟩ := hl
        exact (hn.2.1 7 _ (nowL_at D (by rw [HI.out.len]; omega))).1
      rw [HXL.out]
      have HB7 := Lib.hid hb7
      clear hat hb7 hq
      have HE : Hid (∃ S, D.crash [] = onD S [] 0 ∧ S.length = 8) := ⟨_, rfl, by rw [laidN_length]; exact HI.out.len⟩
      obtain ⟨S, hS, hSl⟩ := HE.out
      have hSg := HI.out.good.crash []
      rw [hS] at HAX hSg
      have HSL := Lib.hid hSl; have HSGD := Lib.hid hSg
      clear hS hSl hSg HE
      go_wp2_with fail
      refine (GB.out 1 w7).mono ?_
      rintro e w8 ⟨gb, cb, rfl, hat, hge, hlt8, hbel, _⟩
      have HAT8 := Lib.hid hat; have HGE8 := Lib.hid hge; have HB8 := Lib.hid hbel
      clear hat hge hlt8 hbel
      go_wp2_with fail
      refine (alone_sec ((HAX.out.below HB7.out).below HB8.out) (by show 0 ≤ 1099511627776; omega) (by show 0 ≤ 1048576; omega) ((0 : Nat) : Int) gb (B 1) cb HAT8.out (by have := HAX.out.lt; have := HGE8.out; have := HB7.out.size; omega) (HLN.out _)).mono ?_
      rw [on_write (by rw [HSL.out]; omega) (HLN.out _)]
      rintro e w9 ⟨rfl, hal, hb9⟩
      have HA9 := Lib.hid hal
      have HB9 : Hid (Below w.heap.size w w9) := HB6.out.trans (((HB7.out.trans (HB8.out.mono HB7.out.size)).mono HB6.out.size).trans hb9)
      clear hal hb9
      have HF9 : Hid ((onD S ([] ++ [(0, B 1)]) (0 + 1)).Fit) := ⟨HSGD.out.fit.pos, HSGD.out.fit.most, HSGD.out.fit.safe, fun p hp => by
        have hp : p ∈ [(0, B 1)] := hp
        rw [List.mem_singleton.1 hp]
        exact ⟨by show (0 : Nat) < S.length; rw [HSL.out]; omega, HLN.out 1⟩⟩
      go_wp2_with fail
      refine (alone_flush HA9.out (by show 1 ≤ 1099511627776; omega) (by show 1 ≤ 1048576; omega) HF9.out).mono ?_
      rw [on_flush]
      rintro e w10 ⟨rfl, hal, hb10⟩
      have HA10 := Lib.hid hal
      have HB10 : Hid (Below w.heap.size w w10) := HB9.out.trans hb10
      clear hal hb10
      go_wp2_with fail
      refine (alone_ops HA10.out).mono ?_
      rintro e w' ⟨rfl, rfl⟩
      have ho2 : ((onD (fold ([] ++ [(0, B 1)]) S) [] (0 + 1 + 1)).ops : Int) = 2 := rfl
      rw [ho2]
      clear ho2
      go_wp2_with fail
      refine (GA.out w10).mono ?_
      rintro e w11 ⟨rfl, hb11⟩
      have HB11 := Lib.hid hb11; clear hb11
      go_wp2
      go_ret
      exact ⟨rfl, HB10.out.trans (HB11.out.mono HB10.out.size)⟩
end Go.Proofs.Ytnjgjkfdblpddaa
