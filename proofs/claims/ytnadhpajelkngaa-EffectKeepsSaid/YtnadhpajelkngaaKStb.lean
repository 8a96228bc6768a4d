/- A sorted stretch and one element merged. Conditions: both stretches lie within the row; each of the first one stands, where they are equal, ahead of each of the second one. (Merged of 2 texts.) -/
import Derived.Test.YtnadhpajelkngaaKSta
/- One element and a sorted stretch merged. Conditions: both stretches lie within the row; each of the first one stands, where they are equal, ahead of each of the second one. -/
namespace Go.Proofs.Ytnadhpajelkngaa
open Go.RowKit Go.Lib Go.Sort
variable {P : Program} {α : Type} [Inhabited α] {enc : α → List Value} {k : Nat} {w0 : World} {blk off : Nat} {d0 : Array α}

set_option maxHeartbeats 8000000 in
set_option maxRecDepth 1000000 in
theorem stbMerge_one (L : LaysS P k) (R : RowK enc k w0 blk off d0) {lt : α → α → Bool} {C : α → α → Prop} {cn : α → α → Int} (O : Ord lt C cn) (g : Nat) (cb : Array Value) (cap : Nat)
    (eg : ∀ args w, (callFunc g args).run P w = .ok (.enter g args) w) (hcmp : CmpLays P g cb enc k cn blk off d0.size w0) (hsz : d0.size < 1099511627776)
    (a m b : Nat) (d : Array α) (w : World) (h1 : m = a + 1) (ham : a < m) (hmb : m < b) (hb : b ≤ d.size) (hd : d0.size = d.size) (S : SWK enc k w0 blk off d w) (hl : SortedIn lt a m d) (hr : SortedIn lt m b d) (hC : ∀ x y, a ≤ x → x < m → m ≤ y → y < b → C d[x]! d[y]!) :
    MergeOf P enc k w0 blk off lt g cb cap a m b d w := by
  unfold MergeOf
  have mixed := L.mixed; have t3 := L.t3; have a3 := L.a3; have z3 := L.z3; have v3 := L.v3; have t4 := L.t4; have a4 := L.a4; have z4 := L.z4; have v4 := L.v4; have t32 := L.t32; have a32 := L.a32; have z32 := L.z32; have v32 := L.v32; have t85 := L.t85; have a85 := L.a85; have z85 := L.z85; have v85 := L.v85; have t92 := L.t92; have a92 := L.a92; have z92 := L.z92; have v92 := L.v92; have aE := L.aE; have zE := L.zE
  have FG := L.fMerge
  have S0 : Hid (SWK enc k w0 blk off d w) := S
  have RR : Hid (RowK enc k w0 blk off d0) := R
  have HC : Hid (CmpLays P g cb enc k cn blk off d0.size w0) := hcmp
  have HL : Hid (SortedIn lt a m d) := hl
  have HR : Hid (SortedIn lt m b d) := hr
  have HX : Hid (∀ x y, a ≤ x → x < m → m ≤ y → y < b → C d[x]! d[y]!) := hC
  have HO : Hid (Ord lt C cn) := O
  have hszd : d.size < 1099511627776 := by omega
  clear S R hcmp hl hr hC O
  clear hsz
  go_enter FG, Try.ntmps69
  have em1 : (m : Int) - (a : Int) = 1 := by omega
  have H1 : Hid (m = a + 1) := h1
  clear h1
  go_wp2
  go_loopg [10, 11] (b - m) (fun kx s10 s11 wr => ∃ i j : Nat, s10 = .int .i64 i ∧ s11 = .int .i64 j ∧ m ≤ i ∧ i ≤ j ∧ j ≤ b ∧ j - i ≤ kx ∧ Hid (SWK enc k w0 blk off d wr) ∧ Hid (∀ t, m ≤ t → t < i → lt d[a]! d[t]! = false) ∧ Hid (∀ t, j ≤ t → t < b → lt d[t]! d[a]! = false))
  case atStart => exact ⟨m, b, rfl, rfl, Nat.le_refl _, by omega, Nat.le_refl _, Nat.le_refl _, S0, (fun t h1 h2 => by omega), (fun t h1 h2 => by omega)⟩
  case round =>
    clear S0 em1
    obtain ⟨i, j, rfl, rfl, hi, hij, hjb, hkx, S1, HA, HB⟩ := hrel
    by_cases hlt : i < j
    · have hltz : (i : Int) < (j : Int) := by omega
      obtain ⟨sm, hsm⟩ : ∃ x, i + j = x := ⟨_, rfl⟩
      obtain ⟨h, hh⟩ : ∃ x, sm / 2 = x := ⟨_, rfl⟩
      have esm : (i : Int) + (j : Int) = (sm : Int) := by omega
      have wsm : IntKind.u64.wrap (sm : Int) = (sm : Int) := by rw [IntKind.wrap_u64]; omega
      have dsm : (sm : Int) / 2 = (h : Int) := by omega
      have d2sm : (sm : Int) >>> 1 = (h : Int) := by rw [Int.shiftRight_eq_div_pow]; omega
      have wsh : IntKind.i64.wrap (h : Int) = (h : Int) := by rw [IntKind.wrap_i64]; omega
      have wuh : IntKind.u64.wrap (h : Int) = (h : Int) := by rw [IntKind.wrap_u64]; omega
      have Hh : Hid ((i + j) / 2 = h) := by show _ = _; rw [hsm]; exact hh
      have b1h : i ≤ h := by omega
      have b2h : h < j ∨ i = j := by omega
      clear hsm hh
      have hbd : h < d.size := by omega
      have had : a < d.size := by omega
      have eha : ((h : Int)).toNat = h := by omega
      have ehp : (0 : Int) ≤ (h : Int) := by omega
      have ehb : (h : Int) < (d.size : Int) := by omega
      have ehw : IntKind.i64.wrap ((h : Int)) = (h : Int) := by rw [IntKind.wrap_i64]; omega
      have eaa : ((a : Int)).toNat = a := by omega
      have eap : (0 : Int) ≤ (a : Int) := by omega
      have eab : (a : Int) < (d.size : Int) := by omega
      have eaw : IntKind.i64.wrap ((a : Int)) = (a : Int) := by rw [IntKind.wrap_i64]; omega
      obtain ⟨xi, hxi⟩ : ∃ x, d[h]! = x := ⟨_, rfl⟩
      obtain ⟨xj, hxj⟩ : ∃ x, d[a]! = x := ⟨_, rfl⟩
      have li : ∀ n' os', Sem.run P (loadCellsFrom ⟨blk, off + h * k, none⟩ 0 k #[]) (grow (wr.drewN n') os') = .ok (enc xi).toArray (grow (wr.drewN n') os') := fun n' os' => by rw [← hxi]; exact S1.out.ld RR.out (by omega) P h (by omega) n' os'
      have lj : ∀ n' os', Sem.run P (loadCellsFrom ⟨blk, off + a * k, none⟩ 0 k #[]) (grow (wr.drewN n') os') = .ok (enc xj).toArray (grow (wr.drewN n') os') := fun n' os' => by rw [← hxj]; exact S1.out.ld RR.out (by omega) P a (by omega) n' os'
      have hcg : ∀ n' os', Calls P g (#[.agg (enc xi).toArray, .agg (enc xj).toArray] ++ cb) (grow (wr.drewN n') os') fun e w' => e = .returned (.int .i64 (cn xi xj)) ∧ ∃ q os'', w' = grow ((grow (wr.drewN n') os').drewN q) os'' := fun n' os' => S1.out.cmp HC.out (by omega) xi xj n' os'
      have SG : Hid (∀ n' os', SWK enc k w0 blk off d (grow (wr.drewN n') os')) := fun n' os' => S1.out.grown n' os'
      have HXI : Hid (d[h]! = xi ∧ d[a]! = xj) := ⟨hxi, hxj⟩
      clear hxi hxj S1
      by_cases hv : cn xi xj < 0
      · have HV : Hid (cn xi xj < 0) := hv
        have hvd : decide (cn xi xj < 0) = true := decide_eq_true hv
        have hvn : (!decide (cn xi xj < 0)) = false := by rw [hvd]; rfl
        go_wp2_with fail
        go_quiet_grown (first | (go_at_fn g; refine Calls.grown_of (hcg _ _)))
        go_wp2
        go_roundg (j - (h + 1))
        case measure => omega
        case rel => exact ⟨h + 1, j, by first | rfl | simp, rfl, by omega, by omega, hjb, Nat.le_refl _, SG.out _ _, find_low HO.out.swo HR.out (by omega) (by omega) (HO.out.yes _ _ (HX.out a h (Nat.le_refl _) (by omega) (by omega) (by omega)) (by rw [HXI.out.1, HXI.out.2]; have := HV.out; omega)), HB.out⟩
      · have HV : Hid (¬ cn xi xj < 0) := hv
        have hvd : decide (cn xi xj < 0) = false := decide_eq_false hv
        have hvn : (!decide (cn xi xj < 0)) = true := by rw [hvd]; rfl
        go_wp2_with fail
        go_quiet_grown (first | (go_at_fn g; refine Calls.grown_of (hcg _ _)))
        go_wp2
        go_roundg (h - i)
        case measure => omega
        case rel => exact ⟨i, h, rfl, rfl, hi, by omega, by omega, Nat.le_refl _, SG.out _ _, HA.out, find_high HO.out.swo HR.out (by omega) (HO.out.no _ _ (HX.out a h (Nat.le_refl _) (by omega) (by omega) (by omega)) (by rw [HXI.out.1, HXI.out.2]; have := HV.out; omega))⟩
    · have hltz : ¬ (i : Int) < (j : Int) := by omega
      obtain rfl : i = j := by omega
      obtain ⟨i1, hi1⟩ : ∃ x, i - 1 = x := ⟨_, rfl⟩
      have ei1 : (i : Int) - 1 = (i1 : Int) := by omega
      have HI1 : Hid (i = i1 + 1 ∧ a ≤ i1 ∧ i1 < b) := ⟨by omega, by have := H1.out; omega, by omega⟩
      clear hi1
      obtain ⟨wq, hwq⟩ : ∃ x, x = wr := ⟨_, rfl⟩
      subst hwq
      go_wp2
      go_loopg [13] (i1 - a) (fun kx s13 wr => ∃ (q : Nat) (dk : Array α), s13 = .int .i64 q ∧ a ≤ q ∧ q ≤ i1 ∧ i1 - q ≤ kx ∧ dk.size = d.size ∧ Hid (SWK enc k w0 blk off dk wr) ∧ Hid (RotRes d a (a + 1) (q + 1) dk) ∧ Hid (PermIn a b d dk))
      case atStart => exact ⟨a, d, rfl, Nat.le_refl _, HI1.out.2.1, Nat.le_refl _, rfl, S1, rot_none d a (a + 1), permIn_refl d a b⟩
      case round =>
        clear S1
        obtain ⟨q, dk, rfl, hq, hqi, hkx, hds, S1, HRR, HP⟩ := hrel
        have hib : i1 < b := HI1.out.2.2
        by_cases hlt : q < i1
        · have hltz : (q : Int) < (i1 : Int) := by omega
          obtain ⟨y, hy⟩ : ∃ y, q + 1 = y := ⟨_, rfl⟩
          have ey : (q : Int) + 1 = (y : Int) := by omega
          have eqa : ((q : Int)).toNat = q := by omega
          have eqp : (0 : Int) ≤ (q : Int) := by omega
          have eqb : (q : Int) < (d.size : Int) := by omega
          have eqw : IntKind.i64.wrap ((q : Int)) = (q : Int) := by rw [IntKind.wrap_i64]; omega
          have eya : ((y : Int)).toNat = y := by omega
          have eyp : (0 : Int) ≤ (y : Int) := by omega
          have eyb : (y : Int) < (d.size : Int) := by omega
          have eyw : IntKind.i64.wrap ((y : Int)) = (y : Int) := by rw [IntKind.wrap_i64]; omega
          have S2 : Hid (SWK enc k w0 blk off (swp dk q y) ((wr.drew.setCells blk (off + q * k) (enc dk[y]!)).setCells blk (off + y * k) (enc dk[q]!))) := S1.out.swapped RR.out q y (by omega) (by omega)
          have l44a := S1.out.ld1 RR.out (by omega) P q (by omega)
          have l44b := S1.out.ld1 RR.out (by omega) P y (by omega)
          have s44a := S1.out.st1 RR.out (by omega) P q (by omega) dk[y]!
          have s44b := S1.out.st2 RR.out (by omega) P q y (by omega) (by omega) dk[y]! dk[q]!
          have n44a : (enc dk[q]!).length = k := RR.out.hk _
          have n44b : (enc dk[y]!).length = k := RR.out.hk _
          have HR2 : Hid (RotRes d a (a + 1) (q + 1 + 1) (swp dk q y)) := by
            have := rot_up hq (by omega) HRR.out
            rwa [hy] at this
          have HP2 : Hid (PermIn a b d (swp dk q y)) := permIn_trans _ _ _ a b HP.out (swp_permIn dk a b q y (by omega) (by omega) (by omega) (by omega) (by omega))
          have HY : Hid (q + 1 = y) := hy
          clear hy HRR HP
          generalize enc dk[q]! = cI44 at S2 l44a s44b n44a
          generalize enc dk[y]! = cJ44 at S2 l44b s44a s44b n44b
          clear S1
          go_wp2_with fail
          go_big_region_o
          clear l44a l44b s44a s44b
          generalize (wr.drew.setCells blk (off + q * k) cJ44).setCells blk (off + y * k) cI44 = w2 at S2 ⊢
          go_wp2
          go_roundg (i1 - (q + 1))
          case measure => omega
          case rel => exact ⟨q + 1, swp dk q y, by first | rfl | (rw [HY.out]) | simp, by omega, by omega, Nat.le_refl _, by rw [swp_size]; exact hds, S2, HR2, HP2⟩
        · have hltz : ¬ (q : Int) < (i1 : Int) := by omega
          obtain rfl : q = i1 := by omega
          go_wp2
          (try simp only [Exit.inBlock, Exit.then])
          refine bodyPost_ret (results_none rfl _ _ _) rfl ?_
          have h1 := H1.out
          have h2 := HI1.out.1
          have h3 := HR.out
          have h4 := HA.out
          subst h1
          subst h2
          exact ⟨rfl, dk, S1.out, HP.out, insert_up HRR.out (by omega) hjb h3 h4 HB.out⟩
end Go.Proofs.Ytnadhpajelkngaa

/- A sorted stretch and one element merged. Conditions: both stretches lie within the row; each of the first one stands, where they are equal, ahead of each of the second one. -/
namespace Go.Proofs.Ytnadhpajelkngaa
open Go.RowKit Go.Lib Go.Sort
variable {P : Program} {α : Type} [Inhabited α] {enc : α → List Value} {k : Nat} {w0 : World} {blk off : Nat} {d0 : Array α}

set_option maxHeartbeats 8000000 in
set_option maxRecDepth 1000000 in
theorem stbMerge_last (L : LaysS P k) (R : RowK enc k w0 blk off d0) {lt : α → α → Bool} {C : α → α → Prop} {cn : α → α → Int} (O : Ord lt C cn) (g : Nat) (cb : Array Value) (cap : Nat)
    (eg : ∀ args w, (callFunc g args).run P w = .ok (.enter g args) w) (hcmp : CmpLays P g cb enc k cn blk off d0.size w0) (hsz : d0.size < 1099511627776)
    (a m b : Nat) (d : Array α) (w : World) (h2 : b = m + 1) (h1 : m ≠ a + 1) (ham : a < m) (hmb : m < b) (hb : b ≤ d.size) (hd : d0.size = d.size) (S : SWK enc k w0 blk off d w) (hl : SortedIn lt a m d) (hr : SortedIn lt m b d) (hC : ∀ x y, a ≤ x → x < m → m ≤ y → y < b → C d[x]! d[y]!) :
    MergeOf P enc k w0 blk off lt g cb cap a m b d w := by
  unfold MergeOf
  have mixed := L.mixed; have t3 := L.t3; have a3 := L.a3; have z3 := L.z3; have v3 := L.v3; have t4 := L.t4; have a4 := L.a4; have z4 := L.z4; have v4 := L.v4; have t32 := L.t32; have a32 := L.a32; have z32 := L.z32; have v32 := L.v32; have t85 := L.t85; have a85 := L.a85; have z85 := L.z85; have v85 := L.v85; have t92 := L.t92; have a92 := L.a92; have z92 := L.z92; have v92 := L.v92; have aE := L.aE; have zE := L.zE
  have FG := L.fMerge
  have S0 : Hid (SWK enc k w0 blk off d w) := S
  have RR : Hid (RowK enc k w0 blk off d0) := R
  have HC : Hid (CmpLays P g cb enc k cn blk off d0.size w0) := hcmp
  have HL : Hid (SortedIn lt a m d) := hl
  have HR : Hid (SortedIn lt m b d) := hr
  have HX : Hid (∀ x y, a ≤ x → x < m → m ≤ y → y < b → C d[x]! d[y]!) := hC
  have HO : Hid (Ord lt C cn) := O
  have hszd : d.size < 1099511627776 := by omega
  clear S R hcmp hl hr hC O
  clear hsz
  go_enter FG, Try.ntmps69
  have h1z : ((m : Int) - (a : Int) == 1) = false := beq_eq_false_iff_ne.2 (by omega)
  have em1 : (b : Int) - (m : Int) = 1 := by omega
  clear h1
  have H2 : Hid (b = m + 1) := h2
  clear h2
  go_wp2
  go_loopg [14, 15] (m - a) (fun kx s14 s15 wr => ∃ i j : Nat, s14 = .int .i64 i ∧ s15 = .int .i64 j ∧ a ≤ i ∧ i ≤ j ∧ j ≤ m ∧ j - i ≤ kx ∧ Hid (SWK enc k w0 blk off d wr) ∧ Hid (∀ t, a ≤ t → t < i → lt d[m]! d[t]! = false) ∧ Hid (∀ t, j ≤ t → t < m → lt d[t]! d[m]! = false))
  case atStart => exact ⟨a, m, rfl, rfl, Nat.le_refl _, by omega, Nat.le_refl _, Nat.le_refl _, S0, (fun t h1 h2 => by omega), (fun t h1 h2 => by omega)⟩
  case round =>
    clear S0 em1 h1z
    obtain ⟨i, j, rfl, rfl, hi, hij, hjb, hkx, S1, HA, HB⟩ := hrel
    by_cases hlt : i < j
    · have hltz : (i : Int) < (j : Int) := by omega
      obtain ⟨sm, hsm⟩ : ∃ x, i + j = x := ⟨_, rfl⟩
      obtain ⟨h, hh⟩ : ∃ x, sm / 2 = x := ⟨_, rfl⟩
      have esm : (i : Int) + (j : Int) = (sm : Int) := by omega
      have wsm : IntKind.u64.wrap (sm : Int) = (sm : Int) := by rw [IntKind.wrap_u64]; omega
      have dsm : (sm : Int) / 2 = (h : Int) := by omega
      have d2sm : (sm : Int) >>> 1 = (h : Int) := by rw [Int.shiftRight_eq_div_pow]; omega
      have wsh : IntKind.i64.wrap (h : Int) = (h : Int) := by rw [IntKind.wrap_i64]; omega
      have wuh : IntKind.u64.wrap (h : Int) = (h : Int) := by rw [IntKind.wrap_u64]; omega
      have Hh : Hid ((i + j) / 2 = h) := by show _ = _; rw [hsm]; exact hh
      have b1h : i ≤ h := by omega
      have b2h : h < j ∨ i = j := by omega
      clear hsm hh
      have hbd : h < d.size := by omega
      have had : m < d.size := by omega
      have eha : ((h : Int)).toNat = h := by omega
      have ehp : (0 : Int) ≤ (h : Int) := by omega
      have ehb : (h : Int) < (d.size : Int) := by omega
      have ehw : IntKind.i64.wrap ((h : Int)) = (h : Int) := by rw [IntKind.wrap_i64]; omega
      have ema : ((m : Int)).toNat = m := by omega
      have emp : (0 : Int) ≤ (m : Int) := by omega
      have emb : (m : Int) < (d.size : Int) := by omega
      have emw : IntKind.i64.wrap ((m : Int)) = (m : Int) := by rw [IntKind.wrap_i64]; omega
      obtain ⟨xi, hxi⟩ : ∃ x, d[m]! = x := ⟨_, rfl⟩
      obtain ⟨xj, hxj⟩ : ∃ x, d[h]! = x := ⟨_, rfl⟩
      have li : ∀ n' os', Sem.run P (loadCellsFrom ⟨blk, off + m * k, none⟩ 0 k #[]) (grow (wr.drewN n') os') = .ok (enc xi).toArray (grow (wr.drewN n') os') := fun n' os' => by rw [← hxi]; exact S1.out.ld RR.out (by omega) P m (by omega) n' os'
      have lj : ∀ n' os', Sem.run P (loadCellsFrom ⟨blk, off + h * k, none⟩ 0 k #[]) (grow (wr.drewN n') os') = .ok (enc xj).toArray (grow (wr.drewN n') os') := fun n' os' => by rw [← hxj]; exact S1.out.ld RR.out (by omega) P h (by omega) n' os'
      have hcg : ∀ n' os', Calls P g (#[.agg (enc xi).toArray, .agg (enc xj).toArray] ++ cb) (grow (wr.drewN n') os') fun e w' => e = .returned (.int .i64 (cn xi xj)) ∧ ∃ q os'', w' = grow ((grow (wr.drewN n') os').drewN q) os'' := fun n' os' => S1.out.cmp HC.out (by omega) xi xj n' os'
      have SG : Hid (∀ n' os', SWK enc k w0 blk off d (grow (wr.drewN n') os')) := fun n' os' => S1.out.grown n' os'
      have HXI : Hid (d[m]! = xi ∧ d[h]! = xj) := ⟨hxi, hxj⟩
      clear hxi hxj S1
      by_cases hv : cn xi xj < 0
      · have HV : Hid (cn xi xj < 0) := hv
        have hvd : decide (cn xi xj < 0) = true := decide_eq_true hv
        have hvn : (!decide (cn xi xj < 0)) = false := by rw [hvd]; rfl
        go_wp2_with fail
        go_quiet_grown (first | (go_at_fn g; refine Calls.grown_of (hcg _ _)))
        go_wp2
        go_roundg (h - i)
        case measure => omega
        case rel => exact ⟨i, h, rfl, rfl, hi, by omega, by omega, Nat.le_refl _, SG.out _ _, HA.out, find_high HO.out.swo HL.out (by omega) (HO.out.yes _ _ (HX.out h m (by omega) (by omega) (Nat.le_refl _) (by omega)) (by rw [HXI.out.1, HXI.out.2]; have := HV.out; omega))⟩
      · have HV : Hid (¬ cn xi xj < 0) := hv
        have hvd : decide (cn xi xj < 0) = false := decide_eq_false hv
        have hvn : (!decide (cn xi xj < 0)) = true := by rw [hvd]; rfl
        go_wp2_with fail
        go_quiet_grown (first | (go_at_fn g; refine Calls.grown_of (hcg _ _)))
        go_wp2
        go_roundg (j - (h + 1))
        case measure => omega
        case rel => exact ⟨h + 1, j, by first | rfl | simp, rfl, by omega, by omega, hjb, Nat.le_refl _, SG.out _ _, find_low HO.out.swo HL.out (by omega) (by omega) (HO.out.no _ _ (HX.out h m (by omega) (by omega) (Nat.le_refl _) (by omega)) (by rw [HXI.out.1, HXI.out.2]; have := HV.out; omega)), HB.out⟩
    · have hltz : ¬ (i : Int) < (j : Int) := by omega
      obtain rfl : i = j := by omega
      obtain ⟨wq, hwq⟩ : ∃ x, x = wr := ⟨_, rfl⟩
      subst hwq
      go_wp2
      go_loopg [17] (m - i) (fun kx s17 wr => ∃ (q : Nat) (dk : Array α), s17 = .int .i64 q ∧ i ≤ q ∧ q ≤ m ∧ q - i ≤ kx ∧ dk.size = d.size ∧ Hid (SWK enc k w0 blk off dk wr) ∧ Hid (RotRes d q m (m + 1) dk) ∧ Hid (PermIn a (m + 1) d dk))
      case atStart => exact ⟨m, d, rfl, by omega, Nat.le_refl _, Nat.le_refl _, rfl, S1, rot_nil d m (m + 1), permIn_refl d a (m + 1)⟩
      case round =>
        clear S1
        obtain ⟨q, dk, rfl, hq, hqi, hkx, hds, S1, HRR, HP⟩ := hrel
        by_cases hlt : i < q
        · have hltz : (i : Int) < (q : Int) := by omega
          obtain ⟨y, hy⟩ : ∃ y, q - 1 = y := ⟨_, rfl⟩
          have ey : (q : Int) - 1 = (y : Int) := by omega
          have eqa : ((q : Int)).toNat = q := by omega
          have eqp : (0 : Int) ≤ (q : Int) := by omega
          have eqb : (q : Int) < (d.size : Int) := by omega
          have eqw : IntKind.i64.wrap ((q : Int)) = (q : Int) := by rw [IntKind.wrap_i64]; omega
          have eya : ((y : Int)).toNat = y := by omega
          have eyp : (0 : Int) ≤ (y : Int) := by omega
          have eyb : (y : Int) < (d.size : Int) := by omega
          have eyw : IntKind.i64.wrap ((y : Int)) = (y : Int) := by rw [IntKind.wrap_i64]; omega
          have S2 : Hid (SWK enc k w0 blk off (swp dk q y) ((wr.drew.setCells blk (off + q * k) (enc dk[y]!)).setCells blk (off + y * k) (enc dk[q]!))) := S1.out.swapped RR.out q y (by omega) (by omega)
          have l44a := S1.out.ld1 RR.out (by omega) P q (by omega)
          have l44b := S1.out.ld1 RR.out (by omega) P y (by omega)
          have s44a := S1.out.st1 RR.out (by omega) P q (by omega) dk[y]!
          have s44b := S1.out.st2 RR.out (by omega) P q y (by omega) (by omega) dk[y]! dk[q]!
          have n44a : (enc dk[q]!).length = k := RR.out.hk _
          have n44b : (enc dk[y]!).length = k := RR.out.hk _
          have hyq : y + 1 = q := by omega
          have HR2 : Hid (RotRes d y m (m + 1) (swp dk q y)) := by
            have := rot_down (d := d) (e := dk) (m := m) (k := y) (by omega) (by omega) (by rw [hyq]; exact HRR.out)
            rwa [hyq] at this
          have HP2 : Hid (PermIn a (m + 1) d (swp dk q y)) := permIn_trans _ _ _ a (m + 1) HP.out (swp_permIn dk a (m + 1) q y (by omega) (by omega) (by omega) (by omega) (by omega))
          have HQ1 : Hid (y + 1 = q) := hyq
          clear hy hyq HRR HP
          generalize enc dk[q]! = cI44 at S2 l44a s44b n44a
          generalize enc dk[y]! = cJ44 at S2 l44b s44a s44b n44b
          clear S1
          go_wp2_with fail
          go_big_region_o
          clear l44a l44b s44a s44b
          generalize (wr.drew.setCells blk (off + q * k) cJ44).setCells blk (off + y * k) cI44 = w2 at S2 ⊢
          go_wp2
          go_roundg (y - i)
          case measure => have := HQ1.out; omega
          case rel => exact ⟨y, swp dk q y, by first | rfl | simp, by have := HQ1.out; omega, by have := HQ1.out; omega, Nat.le_refl _, by rw [swp_size]; exact hds, S2, HR2, HP2⟩
        · have hltz : ¬ (i : Int) < (q : Int) := by omega
          obtain rfl : i = q := by omega
          go_wp2
          (try simp only [Exit.inBlock, Exit.then])
          refine bodyPost_ret (results_none rfl _ _ _) rfl ?_
          have h2 := H2.out
          subst h2
          exact ⟨rfl, dk, S1.out, HP.out, insert_down HRR.out hi (by omega) HL.out HA.out HB.out⟩
end Go.Proofs.Ytnadhpajelkngaa
