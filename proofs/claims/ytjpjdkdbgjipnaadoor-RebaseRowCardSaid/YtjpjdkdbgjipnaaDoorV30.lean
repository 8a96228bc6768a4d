/- The stable sort of any number of elements (slices.stableCmpFunc): in order, equal ones as they stood. Conditions: a row of at most 2^20 elements, each with its number; a comparison by keys. (Merged of 4 texts.) -/
import Derived.Test.YtjpjdkdbgjipnaaDoorV29
import Derived.Test.YtjpjdkdbgjipnaaDoorShelf
namespace Go.Proofs.YtjpjdkdbgjipnaaDoor
open Go.RowKit Go.Lib Go.Sort
variable {P : Program} {α : Type} [Inhabited α] {enc : α → List Value} {k : Nat} {w0 : World} {blk off : Nat} {d0 : Array α}
set_option maxHeartbeats 8000000 in
set_option maxRecDepth 1000000 in
theorem yy348 (L : LaysS P k) (R : RowK enc k w0 blk off d0) {lt : α → α → Bool} {C : α → α → Prop} {cn : α → α → Int} (O : Ord lt C cn) (g : Nat) (cb : Array Value) (cap : Nat)
  (eg : ∀ args w, (callFunc g args).run P w = .ok (.enter g args) w) (hcmp : CmpLays P g cb enc k cn blk off d0.size w0) (hsz : d0.size < 1099511627776)
  (a m b : Nat) (d : Array α) (w : World) (h1 : m = a + 1) (ham : a < m) (hmb : m < b) (hb : b ≤ d.size) (hd : d0.size = d.size) (S : SWK enc k w0 blk off d w) (hl : SortedIn lt a m d) (hr : SortedIn lt m b d) (hC : ∀ x y, a ≤ x → x < m → m ≤ y → y < b → C d[x]! d[y]!) :
  yy144 P enc k w0 blk off lt g cb cap a m b d w := by
 unfold yy144
 have mixed := L.mixed; have t3 := L.t3; have a3 := L.a3; have z3 := L.z3; have v3 := L.v3; have t4 := L.t4; have a4 := L.a4; have z4 := L.z4; have v4 := L.v4; have t32 := L.t32; have a32 := L.a32; have z32 := L.z32; have v32 := L.v32; have t85 := L.t85; have a85 := L.a85; have z85 := L.z85; have v85 := L.v85; have t92 := L.t92; have a92 := L.a92; have z92 := L.z92; have v92 := L.v92; have aE := L.aE; have zE := L.zE
 have FG := L.fMerge
 have S0 : Hid (SWK enc k w0 blk off d w) := S
 have RR : Hid (RowK enc k w0 blk off d0) := R
 have HC : Hid (CmpLays P g cb enc k cn blk off d0.size w0) := hcmp
 have HL : Hid (SortedIn lt a m d) := hl
 have HR : Hid (SortedIn lt m b d) := hr
 have HX : Hid (∀ x y, a ≤ x → x < m → m ≤ y → y < b → C d[x]! d[y]!) := hC
 have HO : Hid (Ord lt C cn) := O
 have hszd : d.size < 1099511627776 := by omega
 clear S R hcmp hl hr hC O
 clear hsz
 go_enter FG, Tryd.ntmps100
 have em1 : (m : Int) - (a : Int) = 1 := by omega
 have H1 : Hid (m = a + 1) := h1
 clear h1
 go_wp2
 go_loopg [10, 11] (b - m) (fun kx s10 s11 wr => ∃ i j : Nat, s10 = .int .i64 i ∧ s11 = .int .i64 j ∧ m ≤ i ∧ i ≤ j ∧ j ≤ b ∧ j - i ≤ kx ∧ Hid (SWK enc k w0 blk off d wr) ∧ Hid (∀ t, m ≤ t → t < i → lt d[a]! d[t]! = false) ∧ Hid (∀ t, j ≤ t → t < b → lt d[t]! d[a]! = false))
 case atStart => exact ⟨m, b, rfl, rfl, Nat.le_refl _, by omega, Nat.le_refl _, Nat.le_refl _, S0, (fun t h1 h2 => by omega), (fun t h1 h2 => by omega)⟩
 case round =>
  clear S0 em1
  obtain ⟨i, j, rfl, rfl, hi, hij, hjb, hkx, S1, HA, HB⟩ := hrel
  by_cases hlt : i < j
  ·have hltz : (i : Int) < (j : Int) := by omega
   obtain ⟨sm, hsm⟩ : ∃ x, i + j = x := ⟨_, rfl⟩
   obtain ⟨h, hh⟩ : ∃ x, sm / 2 = x := ⟨_, rfl⟩
   have esm : (i : Int) + (j : Int) = (sm : Int) := by omega
   have wsm : IntKind.u64.wrap (sm : Int) = (sm : Int) := by rw [IntKind.wrap_u64]; omega
   have dsm : (sm : Int) / 2 = (h : Int) := by omega
   have d2sm : (sm : Int) >>> 1 = (h : Int) := by rw [Int.shiftRight_eq_div_pow]; omega
   have wsh : IntKind.i64.wrap (h : Int) = (h : Int) := by rw [IntKind.wrap_i64]; omega
   have wuh : IntKind.u64.wrap (h : Int) = (h : Int) := by rw [IntKind.wrap_u64]; omega
   have Hh : Hid ((i + j) / 2 = h) := by show _ = _; rw [hsm]; exact hh
   have b1h : i ≤ h := by omega
   have b2h : h < j ∨ i = j := by omega
   clear hsm hh
   have hbd : h < d.size := by omega
   have had : a < d.size := by omega
   have eha : ((h : Int)).toNat = h := by omega
   have ehp : (0 : Int) ≤ (h : Int) := by omega
   have ehb : (h : Int) < (d.size : Int) := by omega
   have ehw : IntKind.i64.wrap ((h : Int)) = (h : Int) := by rw [IntKind.wrap_i64]; omega
   have eaa : ((a : Int)).toNat = a := by omega
   have eap : (0 : Int) ≤ (a : Int) := by omega
   have eab : (a : Int) < (d.size : Int) := by omega
   have eaw : IntKind.i64.wrap ((a : Int)) = (a : Int) := by rw [IntKind.wrap_i64]; omega
   obtain ⟨xi, hxi⟩ : ∃ x, d[h]! = x := ⟨_, rfl⟩
   obtain ⟨xj, hxj⟩ : ∃ x, d[a]! = x := ⟨_, rfl⟩
   have li : ∀ n' os', Sem.run P (loadCellsFrom ⟨blk, off + h * k, none⟩ 0 k #[]) (grow (wr.drewN n') os') = .ok (enc xi).toArray (grow (wr.drewN n') os') := fun n' os' => by rw [← hxi]; exact S1.out.ld RR.out (by omega) P h (by omega) n' os'
   have lj : ∀ n' os', Sem.run P (loadCellsFrom ⟨blk, off + a * k, none⟩ 0 k #[]) (grow (wr.drewN n') os') = .ok (enc xj).toArray (grow (wr.drewN n') os') := fun n' os' => by rw [← hxj]; exact S1.out.ld RR.out (by omega) P a (by omega) n' os'
   have hcg : ∀ n' os', Calls P g (#[.agg (enc xi).toArray, .agg (enc xj).toArray] ++ cb) (grow (wr.drewN n') os') fun e w' => e = .returned (.int .i64 (cn xi xj)) ∧ ∃ q os'', w' = grow ((grow (wr.drewN n') os').drewN q) os'' := fun n' os' => S1.out.cmp HC.out (by omega) xi xj n' os'
   have SG : Hid (∀ n' os', SWK enc k w0 blk off d (grow (wr.drewN n') os')) := fun n' os' => S1.out.grown n' os'
   have HXI : Hid (d[h]! = xi ∧ d[a]! = xj) := ⟨hxi, hxj⟩
   clear hxi hxj S1
   by_cases hv : cn xi xj < 0
   ·have HV : Hid (cn xi xj < 0) := hv
    have hvd : decide (cn xi xj < 0) = true := decide_eq_true hv
    have hvn : (!decide (cn xi xj < 0)) = false := by rw [hvd]; rfl
    go_wp2_with fail
    go_quiet_grown (first | (go_at_fn g; refine Calls.grown_of (hcg _ _)))
    go_wp2
    go_roundg (j - (h + 1))
    case measure => omega
    case rel => exact ⟨h + 1, j, by first | rfl | simp, rfl, by omega, by omega, hjb, Nat.le_refl _, SG.out _ _, yy524 HO.out.swo HR.out (by omega) (by omega) (HO.out.yes _ _ (HX.out a h (Nat.le_refl _) (by omega) (by omega) (by omega)) (by rw [HXI.out.1, HXI.out.2]; have := HV.out; omega)), HB.out⟩
   ·have HV : Hid (¬ cn xi xj < 0) := hv
    have hvd : decide (cn xi xj < 0) = false := decide_eq_false hv
    have hvn : (!decide (cn xi xj < 0)) = true := by rw [hvd]; rfl
    go_wp2_with fail
    go_quiet_grown (first | (go_at_fn g; refine Calls.grown_of (hcg _ _)))
    go_wp2
    go_roundg (h - i)
    case measure => omega
    case rel => exact ⟨i, h, rfl, rfl, hi, by omega, by omega, Nat.le_refl _, SG.out _ _, HA.out, yy179 HO.out.swo HR.out (by omega) (HO.out.no _ _ (HX.out a h (Nat.le_refl _) (by omega) (by omega) (by omega)) (by rw [HXI.out.1, HXI.out.2]; have := HV.out; omega))⟩
  ·have hltz : ¬ (i : Int) < (j : Int) := by omega
   obtain rfl : i = j := by omega
   obtain ⟨i1, hi1⟩ : ∃ x, i - 1 = x := ⟨_, rfl⟩
   have ei1 : (i : Int) - 1 = (i1 : Int) := by omega
   have HI1 : Hid (i = i1 + 1 ∧ a ≤ i1 ∧ i1 < b) := ⟨by omega, by have := H1.out; omega, by omega⟩
   clear hi1
   obtain ⟨wq, hwq⟩ : ∃ x, x = wr := ⟨_, rfl⟩
   subst hwq
   go_wp2
   go_loopg [13] (i1 - a) (fun kx s13 wr => ∃ (q : Nat) (dk : Array α), s13 = .int .i64 q ∧ a ≤ q ∧ q ≤ i1 ∧ i1 - q ≤ kx ∧ dk.size = d.size ∧ Hid (SWK enc k w0 blk off dk wr) ∧ Hid (RotRes d a (a + 1) (q + 1) dk) ∧ Hid (PermIn a b d dk))
   case atStart => exact ⟨a, d, rfl, Nat.le_refl _, HI1.out.2.1, Nat.le_refl _, rfl, S1, yy518 d a (a + 1), permIn_refl d a b⟩
   case round =>
    clear S1
    obtain ⟨q, dk, rfl, hq, hqi, hkx, hds, S1, HRR, HP⟩ := hrel
    have hib : i1 < b := HI1.out.2.2
    by_cases hlt : q < i1
    ·have hltz : (q : Int) < (i1 : Int) := by omega
     obtain ⟨y, hy⟩ : ∃ y, q + 1 = y := ⟨_, rfl⟩
     have ey : (q : Int) + 1 = (y : Int) := by omega
     have eqa : ((q : Int)).toNat = q := by omega
     have eqp : (0 : Int) ≤ (q : Int) := by omega
     have eqb : (q : Int) < (d.size : Int) := by omega
     have eqw : IntKind.i64.wrap ((q : Int)) = (q : Int) := by rw [IntKind.wrap_i64]; omega
     have eya : ((y : Int)).toNat = y := by omega
     have eyp : (0 : Int) ≤ (y : Int) := by omega
     have eyb : (y : Int) < (d.size : Int) := by omega
     have eyw : IntKind.i64.wrap ((y : Int)) = (y : Int) := by rw [IntKind.wrap_i64]; omega
     have S2 : Hid (SWK enc k w0 blk off (swp dk q y) ((wr.drew.setCells blk (off + q * k) (enc dk[y]!)).setCells blk (off + y * k) (enc dk[q]!))) := S1.out.swapped RR.out q y (by omega) (by omega)
     have l44a := S1.out.ld1 RR.out (by omega) P q (by omega)
     have l44b := S1.out.ld1 RR.out (by omega) P y (by omega)
     have s44a := S1.out.st1 RR.out (by omega) P q (by omega) dk[y]!
     have s44b := S1.out.st2 RR.out (by omega) P q y (by omega) (by omega) dk[y]! dk[q]!
     have n44a : (enc dk[q]!).length = k := RR.out.hk _
     have n44b : (enc dk[y]!).length = k := RR.out.hk _
     have HR2 : Hid (RotRes d a (a + 1) (q + 1 + 1) (swp dk q y)) := by
      have := rot_up hq (by omega) HRR.out
      rwa [hy] at this
     have HP2 : Hid (PermIn a b d (swp dk q y)) := permIn_trans _ _ _ a b HP.out (swp_permIn dk a b q y (by omega) (by omega) (by omega) (by omega) (by omega))
     have HY : Hid (q + 1 = y) := hy
     clear hy HRR HP
     generalize enc dk[q]! = cI44 at S2 l44a s44b n44a
     generalize enc dk[y]! = cJ44 at S2 l44b s44a s44b n44b
     clear S1
     go_wp2_with fail
     go_big_region_o
     clear l44a l44b s44a s44b
     generalize (wr.drew.setCells blk (off + q * k) cJ44).setCells blk (off + y * k) cI44 = w2 at S2 ⊢
     go_wp2
     go_roundg (i1 - (q + 1))
     case measure => omega
     case rel => exact ⟨q + 1, swp dk q y, by first | rfl | (rw [HY.out]) | simp, by omega, by omega, Nat.le_refl _, by rw [swp_size]; exact hds, S2, HR2, HP2⟩
    ·have hltz : ¬ (q : Int) < (i1 : Int) := by omega
     obtain rfl : q = i1 := by omega
     go_wp2
     (try simp only [Exit.inBlock, Exit.then])
     refine bodyPost_ret (results_none rfl _ _ _) rfl ?_
     have h1 := H1.out
     have h2 := HI1.out.1
     have h3 := HR.out
     have h4 := HA.out
     subst h1
     subst h2
     exact ⟨rfl, dk, S1.out, HP.out, yy593 HRR.out (by omega) hjb h3 h4 HB.out⟩
variable {P : Program} {α : Type} [Inhabited α] {enc : α → List Value} {k : Nat} {w0 : World} {blk off : Nat} {d0 : Array α}
set_option maxHeartbeats 8000000 in
set_option maxRecDepth 1000000 in
theorem yy299 (L : LaysS P k) (R : RowK enc k w0 blk off d0) {lt : α → α → Bool} {C : α → α → Prop} {cn : α → α → Int} (O : Ord lt C cn) (g : Nat) (cb : Array Value) (cap : Nat)
  (eg : ∀ args w, (callFunc g args).run P w = .ok (.enter g args) w) (hcmp : CmpLays P g cb enc k cn blk off d0.size w0) (hsz : d0.size < 1099511627776)
  (a m b : Nat) (d : Array α) (w : World) (ih : ∀ M, M < b - a → yy636 P enc k w0 blk off d0 lt C g cb cap M) (h1 : m ≠ a + 1) (h2 : b ≠ m + 1) (ham : a < m) (hmb : m < b) (hb : b ≤ d.size) (hd : d0.size = d.size) (S : SWK enc k w0 blk off d w) (hl : SortedIn lt a m d) (hr : SortedIn lt m b d) (hC : ∀ x y, a ≤ x → x < m → m ≤ y → y < b → C d[x]! d[y]!) :
  yy144 P enc k w0 blk off lt g cb cap a m b d w := by
 unfold yy144
 have mixed := L.mixed; have t3 := L.t3; have a3 := L.a3; have z3 := L.z3; have v3 := L.v3; have t4 := L.t4; have a4 := L.a4; have z4 := L.z4; have v4 := L.v4; have t32 := L.t32; have a32 := L.a32; have z32 := L.z32; have v32 := L.v32; have t85 := L.t85; have a85 := L.a85; have z85 := L.z85; have v85 := L.v85; have t92 := L.t92; have a92 := L.a92; have z92 := L.z92; have v92 := L.v92; have aE := L.aE; have zE := L.zE
 have FG := L.fMerge
 have S0 : Hid (SWK enc k w0 blk off d w) := S
 have RR : Hid (RowK enc k w0 blk off d0) := R
 have HC : Hid (CmpLays P g cb enc k cn blk off d0.size w0) := hcmp
 have HL : Hid (SortedIn lt a m d) := hl
 have HR : Hid (SortedIn lt m b d) := hr
 have HX : Hid (∀ x y, a ≤ x → x < m → m ≤ y → y < b → C d[x]! d[y]!) := hC
 have HO : Hid (Ord lt C cn) := O
 have hszd : d.size < 1099511627776 := by omega
 have e75 : ∀ args w, (callFunc 106 args).run P w = .ok (.enter 106 args) w := enters_of L.fRot (by kernel_rfl) rfl
 have e69 : ∀ args w, (callFunc 100 args).run P w = .ok (.enter 100 args) w := enters_of L.fMerge (by kernel_rfl) rfl
 have GR := xh (fun (x y z : Nat) (dk : Array α) (wr : World) (hS : SWK enc k w0 blk off dk wr) (hdk : dk.size = d.size) (h1 : x < y) (h2 : y < z) (h3 : z ≤ d.size) => by
  have := yy523 L R g cb cap x y z dk wr hS (by omega) h1 h2 (by omega) (by omega)
  rwa [hdk] at this)
 have GM := xh (fun (x y z : Nat) (dk : Array α) (wr : World) (hS : SWK enc k w0 blk off dk wr) (hdk : dk.size = d.size) (h0 : z - x < b - a) (h1 : x < y) (h2 : y < z) (h3 : z ≤ d.size) (s1 : SortedIn lt x y dk) (s2 : SortedIn lt y z dk) (h4 : ∀ p q, x ≤ p → p < y → y ≤ q → q < z → C dk[p]! dk[q]!) => by
  have := ih (z - x) (by omega) x y z dk wr (Nat.le_refl _) h1 h2 (by omega) (by omega) hS s1 s2 h4
  unfold yy144 at this
  rwa [hdk] at this)
 clear ih
 clear S R hcmp hl hr hC O
 clear hsz
 go_enter FG, Tryd.ntmps100
 have h1z : ((m : Int) - (a : Int) == 1) = false := xn (by omega)
 have h2z : ((b : Int) - (m : Int) == 1) = false := xn (by omega)
 have hk3 : a + 1 < m ∧ m + 1 < b := by omega
 clear h1 h2
 obtain ⟨sm, hsm⟩ : ∃ x, a + b = x := ⟨_, rfl⟩
 obtain ⟨mid, hmid⟩ : ∃ x, sm / 2 = x := ⟨_, rfl⟩
 have esm : (a : Int) + (b : Int) = (sm : Int) := by omega
 have wsm : IntKind.u64.wrap (sm : Int) = (sm : Int) := by rw [IntKind.wrap_u64]; omega
 have dsm : (sm : Int) / 2 = (mid : Int) := by omega
 have d2sm : (sm : Int) >>> 1 = (mid : Int) := by rw [Int.shiftRight_eq_div_pow]; omega
 have wsh : IntKind.i64.wrap (mid : Int) = (mid : Int) := by rw [IntKind.wrap_i64]; omega
 have wuh : IntKind.u64.wrap (mid : Int) = (mid : Int) := by rw [IntKind.wrap_u64]; omega
 have Hmid : Hid ((a + b) / 2 = mid) := by show _ = _; rw [hsm]; exact hmid
 have b1mid : a ≤ mid := by omega
 have b2mid : mid < b ∨ a = b := by omega
 clear hsm hmid
 obtain ⟨nn, hnn⟩ : ∃ x, mid + m = x := ⟨_, rfl⟩
 have enn : (mid : Int) + (m : Int) = (nn : Int) := by omega
 obtain ⟨pp, hpp⟩ : ∃ x, nn - 1 = x := ⟨_, rfl⟩
 have epp : (nn : Int) - 1 = (pp : Int) := by omega
 obtain ⟨s0, hs0⟩ : ∃ x, (if mid < m then nn - b else a) = x := ⟨_, rfl⟩
 obtain ⟨r0, hr0⟩ : ∃ x, (if mid < m then mid else m) = x := ⟨_, rfl⟩
 have k0 : a ≤ s0 ∧ s0 ≤ r0 ∧ r0 ≤ m ∧ r0 ≤ mid ∧ m ≤ nn - r0 ∧ nn ≤ s0 + b ∧ (s0 = a ∨ nn = s0 + b) ∧ (r0 = m ∨ nn = r0 + m) ∧ a < mid ∧ mid < b ∧ nn = mid + m := by
  have := Hmid.out
  by_cases c : mid < m
  ·rw [if_pos c] at hs0 hr0; omega
  ·rw [if_neg c] at hs0 hr0; omega
 have K0 : Hid (a ≤ s0 ∧ s0 ≤ r0 ∧ r0 ≤ m ∧ r0 ≤ mid ∧ m ≤ nn - r0 ∧ nn ≤ s0 + b ∧ (s0 = a ∨ nn = s0 + b) ∧ (r0 = m ∨ nn = r0 + m) ∧ a < mid ∧ mid < b ∧ nn = mid + m ∧ pp = nn - 1) := by
  show _
  exact ⟨k0.1, k0.2.1, k0.2.2.1, k0.2.2.2.1, k0.2.2.2.2.1, k0.2.2.2.2.2.1, k0.2.2.2.2.2.2.1, k0.2.2.2.2.2.2.2.1, k0.2.2.2.2.2.2.2.2.1, k0.2.2.2.2.2.2.2.2.2.1, k0.2.2.2.2.2.2.2.2.2.2, hpp.symm⟩
 clear k0
 by_cases hm : mid < m
 ·have hmz : (mid : Int) < (m : Int) := by omega
  have es0 : (nn : Int) - (b : Int) = (s0 : Int) := by rw [if_pos hm] at hs0; omega
  have HE : Hid (s0 = s0 ∧ mid = r0) := ⟨rfl, by rw [if_pos hm] at hr0; exact hr0⟩
  clear hs0 hr0 hnn hpp
  go_wp2
  go_loopg [20, 21] (r0 - s0) (fun kx s20 s21 wr => ∃ s r : Nat, s20 = .int .i64 s ∧ s21 = .int .i64 r ∧ s0 ≤ s ∧ s ≤ r ∧ r ≤ r0 ∧ r - s ≤ kx ∧ Hid (SWK enc k w0 blk off d wr) ∧ Hid (∀ x y, a ≤ x → x < s → nn - s ≤ y → y < b → lt d[y]! d[x]! = false) ∧ Hid (∀ x y, r ≤ x → x < m → m ≤ y → y < nn - r → lt d[x]! d[y]! = false))
  case atStart => exact ⟨s0, r0, rfl, by rw [HE.out.2], Nat.le_refl _, K0.out.2.1, Nat.le_refl _, Nat.le_refl _, S0, (fun x y h1 h2 h3 h4 => by have := K0.out; omega), (fun x y h1 h2 h3 h4 => by have := K0.out; omega)⟩
  case round =>
   clear S0
   obtain ⟨s, r, rfl, rfl, hs, hsr, hrr, hkx, S1, HA, HB⟩ := hrel
   by_cases hlt : s < r
   ·have hltz : (s : Int) < (r : Int) := by omega
    have hr1 : r < 1099511627776 := by have := K0.out; omega
    obtain ⟨sm, hsm⟩ : ∃ x, s + r = x := ⟨_, rfl⟩
    obtain ⟨h, hh⟩ : ∃ x, sm / 2 = x := ⟨_, rfl⟩
    have esm : (s : Int) + (r : Int) = (sm : Int) := by omega
    have wsm : IntKind.u64.wrap (sm : Int) = (sm : Int) := by rw [IntKind.wrap_u64]; omega
    have dsm : (sm : Int) / 2 = (h : Int) := by omega
    have d2sm : (sm : Int) >>> 1 = (h : Int) := by rw [Int.shiftRight_eq_div_pow]; omega
    have wsh : IntKind.i64.wrap (h : Int) = (h : Int) := by rw [IntKind.wrap_i64]; omega
    have wuh : IntKind.u64.wrap (h : Int) = (h : Int) := by rw [IntKind.wrap_u64]; omega
    have Hh : Hid ((s + r) / 2 = h) := by show _ = _; rw [hsm]; exact hh
    have b1h : s ≤ h := by omega
    have b2h : h < r ∨ s = r := by omega
    clear hsm hh
    obtain ⟨q, hq⟩ : ∃ q, pp - h = q := ⟨_, rfl⟩
    have eq1 : (pp : Int) - (h : Int) = (q : Int) := by have := K0.out; omega
    have hbd : h < d.size := by have := K0.out; omega
    have had : q < d.size := by have := K0.out; omega
    have hk : a ≤ h ∧ h < m ∧ m ≤ q ∧ q < b ∧ nn - (h + 1) = q ∧ nn - h = q + 1 := by have := K0.out; omega
    have HK : Hid (a ≤ h ∧ h < m ∧ m ≤ q ∧ q < b ∧ nn - (h + 1) = q ∧ nn - h = q + 1) := hk
    clear hk hq
    have eha : ((h : Int)).toNat = h := by omega
    have ehp : (0 : Int) ≤ (h : Int) := by omega
    have ehb : (h : Int) < (d.size : Int) := by omega
    have ehw : IntKind.i64.wrap ((h : Int)) = (h : Int) := by rw [IntKind.wrap_i64]; omega
    have eqa : ((q : Int)).toNat = q := by omega
    have eqp : (0 : Int) ≤ (q : Int) := by omega
    have eqb : (q : Int) < (d.size : Int) := by omega
    have eqw : IntKind.i64.wrap ((q : Int)) = (q : Int) := by rw [IntKind.wrap_i64]; omega
    obtain ⟨xi, hxi⟩ : ∃ x, d[q]! = x := ⟨_, rfl⟩
    obtain ⟨xj, hxj⟩ : ∃ x, d[h]! = x := ⟨_, rfl⟩
    have li : ∀ n' os', Sem.run P (loadCellsFrom ⟨blk, off + q * k, none⟩ 0 k #[]) (grow (wr.drewN n') os') = .ok (enc xi).toArray (grow (wr.drewN n') os') := fun n' os' => by rw [← hxi]; exact S1.out.ld RR.out (by omega) P q (by omega) n' os'
    have lj : ∀ n' os', Sem.run P (loadCellsFrom ⟨blk, off + h * k, none⟩ 0 k #[]) (grow (wr.drewN n') os') = .ok (enc xj).toArray (grow (wr.drewN n') os') := fun n' os' => by rw [← hxj]; exact S1.out.ld RR.out (by omega) P h (by omega) n' os'
    have hcg : ∀ n' os', Calls P g (#[.agg (enc xi).toArray, .agg (enc xj).toArray] ++ cb) (grow (wr.drewN n') os') fun e w' => e = .returned (.int .i64 (cn xi xj)) ∧ ∃ q os'', w' = grow ((grow (wr.drewN n') os').drewN q) os'' := fun n' os' => S1.out.cmp HC.out (by omega) xi xj n' os'
    have SG : Hid (∀ n' os', SWK enc k w0 blk off d (grow (wr.drewN n') os')) := fun n' os' => S1.out.grown n' os'
    have HXI : Hid (d[q]! = xi ∧ d[h]! = xj) := ⟨hxi, hxj⟩
    clear hxi hxj S1
    by_cases hv : cn xi xj < 0
    ·have HV : Hid (cn xi xj < 0) := hv
     have hvd : decide (cn xi xj < 0) = true := decide_eq_true hv
     have hvn : (!decide (cn xi xj < 0)) = false := by rw [hvd]; rfl
     go_wp2_with fail
     go_quiet_grown (first | (go_at_fn g; refine Calls.grown_of (hcg _ _)))
     go_wp2
     go_roundg (h - s)
     case measure => omega
     case rel => exact ⟨s, h, rfl, rfl, hs, by omega, by omega, Nat.le_refl _, SG.out _ _, HA.out, by
      show ∀ x y, h ≤ x → x < m → m ≤ y → y < nn - h → lt d[x]! d[y]! = false
      rw [HK.out.2.2.2.2.2]
      exact yy392 HO.out.swo HL.out HR.out HK.out.1 HK.out.2.2.2.1 (HO.out.yes _ _ (HX.out h q HK.out.1 HK.out.2.1 HK.out.2.2.1 HK.out.2.2.2.1) (by rw [HXI.out.1, HXI.out.2]; have := HV.out; omega))⟩
    ·have HV : Hid (¬ cn xi xj < 0) := hv
     have hvd : decide (cn xi xj < 0) = false := decide_eq_false hv
     have hvn : (!decide (cn xi xj < 0)) = true := by rw [hvd]; rfl
     go_wp2_with fail
     go_quiet_grown (first | (go_at_fn g; refine Calls.grown_of (hcg _ _)))
     go_wp2
     go_roundg (r - (h + 1))
     case measure => omega
     case rel => exact ⟨h + 1, r, by first | rfl | simp, rfl, by omega, by omega, hrr, Nat.le_refl _, SG.out _ _, by
      show ∀ x y, a ≤ x → x < h + 1 → nn - (h + 1) ≤ y → y < b → lt d[y]! d[x]! = false
      rw [HK.out.2.2.2.2.1]
      exact yy525 HO.out.swo HL.out HR.out HK.out.2.1 HK.out.2.2.1 (HO.out.no _ _ (HX.out h q HK.out.1 HK.out.2.1 HK.out.2.2.1 HK.out.2.2.2.1) (by rw [HXI.out.1, HXI.out.2]; have := HV.out; omega)), HB.out⟩
   ·have hltz : ¬ (s : Int) < (r : Int) := by omega
    obtain rfl : s = r := by omega
    obtain ⟨f, hf⟩ : ∃ x, nn - s = x := ⟨_, rfl⟩
    have hkf : (nn : Int) - (s : Int) = (f : Int) ∧ a ≤ s ∧ s ≤ m ∧ m ≤ f ∧ f ≤ b ∧ s + (f - m) = mid ∧ s ≤ mid ∧ mid ≤ f ∧ a < mid ∧ mid < b := by have := K0.out; omega
    have ef := hkf.1
    have HF : Hid (a ≤ s ∧ s ≤ m ∧ m ≤ f ∧ f ≤ b ∧ s + (f - m) = mid ∧ s ≤ mid ∧ mid ≤ f ∧ a < mid ∧ mid < b ∧ nn = s + f ∧ s ≤ r0 ∧ s0 ≤ s) := xh (by have := hkf.2; have := K0.out; omega)
    rw [hf] at HA HB
    have HH := xh (fun (d1 : Array α) (h : RotRes d s m f d1) => by
     have := yy296 (lt := lt) h HF.out.1 HF.out.2.1 HF.out.2.2.1 HF.out.2.2.2.1 C HL.out HR.out HX.out HA.out HB.out
     rwa [HF.out.2.2.2.2.1] at this)
    have hkg := hkf.2
    clear hkf hf HA HB hrr hkx hsr hltz hlt
    by_cases c1 : s < m
    ·by_cases c2 : m < f
     ·have c4 : s < mid := by have := HF.out; omega
      have c5 : mid < f := by have := HF.out; omega
      by_cases c3 : a < s
      ·by_cases c6 : f < b
       ·skip
        have zc1 : (s : Int) < (m : Int) := by omega
        have yc1 : decide ((s : Int) < (m : Int)) = true := decide_eq_true zc1
        have zc2 : (m : Int) < (f : Int) := by omega
        have yc2 : decide ((m : Int) < (f : Int)) = true := decide_eq_true zc2
        have zc3 : (a : Int) < (s : Int) := by omega
        have yc3 : decide ((a : Int) < (s : Int)) = true := decide_eq_true zc3
        have zc4 : (s : Int) < (mid : Int) := by omega
        have yc4 : decide ((s : Int) < (mid : Int)) = true := decide_eq_true zc4
        have zc5 : (mid : Int) < (f : Int) := by omega
        have yc5 : decide ((mid : Int) < (f : Int)) = true := decide_eq_true zc5
        have zc6 : (f : Int) < (b : Int) := by omega
        have yc6 : decide ((f : Int) < (b : Int)) = true := decide_eq_true zc6
        clear hkg
        have G1 := GR.out s m f d wr S1.out rfl c1 c2 (by have := HF.out; omega)
        go_wp2_with fail
        refine G1.mono ?_
        rintro e w1 ⟨rfl, d1, S2, HR2, HP2⟩
        have HZ1 := xh (show d1.size = d.size from HR2.1)
        have HS2 : Hid (SWK enc k w0 blk off d1 w1) := S2
        have HP3 : Hid (PermIn a b d d1) := permIn_mono d d1 s f a b HF.out.1 HF.out.2.2.2.1 hb HP2
        have HQ := xh (HH.out d1 HR2)
        clear S2 HR2 HP2 S1
        have G2 := GM.out a s mid d1 w1 HS2.out HZ1.out (by have := HF.out; omega) c3 c4 (by have := HF.out; omega) HQ.out.1.1 HQ.out.1.2.1 HQ.out.1.2.2
        go_wp2_with fail
        refine G2.mono ?_
        rintro e w2 ⟨rfl, d2, S3, HP4, HS4⟩
        have HZ2 := xh (show d2.size = d.size from HP4.1.trans HZ1.out)
        have HS3 : Hid (SWK enc k w0 blk off d2 w2) := S3
        have HPP : Hid (PermIn a mid d1 d2 ∧ SortedIn lt a mid d2) := ⟨HP4, HS4⟩
        have HSR : Hid (SortedIn lt mid f d2 ∧ SortedIn lt f b d2 ∧ ∀ x y, mid ≤ x → x < f → f ≤ y → y < b → C d2[x]! d2[y]!) :=
         ⟨yy19 HQ.out.2.1.1 fun t h1 h2 => HP4.2.1 t (Or.inr h1), yy19 HQ.out.2.1.2.1 fun t h1 h2 => HP4.2.1 t (Or.inr (by have := HF.out; omega)), fun x y h1 h2 h3 h4 => by
          rw [HP4.2.1 x (Or.inr h1), HP4.2.1 y (Or.inr (by have := HF.out; omega))]
          exact HQ.out.2.1.2.2 x y h1 h2 h3 h4⟩
        clear S3 HP4 HS4
        have G3 := GM.out mid f b d2 w2 HS3.out HZ2.out (by have := HF.out; omega) c5 c6 hb HSR.out.1 HSR.out.2.1 HSR.out.2.2
        go_wp2_with fail
        refine G3.mono ?_
        rintro e w3 ⟨rfl, d3, S4, HP5, HS5⟩
        go_wp2
        (try simp only [Exit.inBlock, Exit.then])
        refine bodyPost_end (v := .tuple #[]) ?_ ?_ ?_
        case refine_1 => exact results_none rfl _ _ _
        case refine_2 => rfl
        obtain ⟨g1, g2⟩ := yy41 (by have := HF.out; omega) (by have := HF.out; omega) (Nat.le_trans hb (Nat.le_of_eq HZ1.out.symm)) HQ.out.2.2 HPP.out.1 HPP.out.2 HP5 HS5
        exact ⟨rfl, d3, S4, permIn_trans _ _ _ a b HP3.out g1, g2⟩
       ·skip
        have zc1 : (s : Int) < (m : Int) := by omega
        have yc1 : decide ((s : Int) < (m : Int)) = true := decide_eq_true zc1
        have zc2 : (m : Int) < (f : Int) := by omega
        have yc2 : decide ((m : Int) < (f : Int)) = true := decide_eq_true zc2
        have zc3 : (a : Int) < (s : Int) := by omega
        have yc3 : decide ((a : Int) < (s : Int)) = true := decide_eq_true zc3
        have zc4 : (s : Int) < (mid : Int) := by omega
        have yc4 : decide ((s : Int) < (mid : Int)) = true := decide_eq_true zc4
        have zc5 : (mid : Int) < (f : Int) := by omega
        have yc5 : decide ((mid : Int) < (f : Int)) = true := decide_eq_true zc5
        have zc6 : ¬ (f : Int) < (b : Int) := by omega
        have yc6 : decide ((f : Int) < (b : Int)) = false := decide_eq_false zc6
        have C6 : Hid (f = b) := xh (by have := HF.out; omega)
        clear c6
        clear hkg
        have G1 := GR.out s m f d wr S1.out rfl c1 c2 (by have := HF.out; omega)
        go_wp2_with fail
        refine G1.mono ?_
        rintro e w1 ⟨rfl, d1, S2, HR2, HP2⟩
        have HZ1 := xh (show d1.size = d.size from HR2.1)
        have HS2 : Hid (SWK enc k w0 blk off d1 w1) := S2
        have HP3 : Hid (PermIn a b d d1) := permIn_mono d d1 s f a b HF.out.1 HF.out.2.2.2.1 hb HP2
        have HQ := xh (HH.out d1 HR2)
        clear S2 HR2 HP2 S1
        have G2 := GM.out a s mid d1 w1 HS2.out HZ1.out (by have := HF.out; omega) c3 c4 (by have := HF.out; omega) HQ.out.1.1 HQ.out.1.2.1 HQ.out.1.2.2
        go_wp2_with fail
        refine G2.mono ?_
        rintro e w2 ⟨rfl, d2, S3, HP4, HS4⟩
        have HZ2 := xh (show d2.size = d.size from HP4.1.trans HZ1.out)
        have HS3 : Hid (SWK enc k w0 blk off d2 w2) := S3
        have HPP : Hid (PermIn a mid d1 d2 ∧ SortedIn lt a mid d2) := ⟨HP4, HS4⟩
        have HSR : Hid (SortedIn lt mid f d2 ∧ SortedIn lt f b d2 ∧ ∀ x y, mid ≤ x → x < f → f ≤ y → y < b → C d2[x]! d2[y]!) :=
         ⟨yy19 HQ.out.2.1.1 fun t h1 h2 => HP4.2.1 t (Or.inr h1), yy19 HQ.out.2.1.2.1 fun t h1 h2 => HP4.2.1 t (Or.inr (by have := HF.out; omega)), fun x y h1 h2 h3 h4 => by
          rw [HP4.2.1 x (Or.inr h1), HP4.2.1 y (Or.inr (by have := HF.out; omega))]
          exact HQ.out.2.1.2.2 x y h1 h2 h3 h4⟩
        clear S3 HP4 HS4
        have S4 := HS3.out
        have HP5 : PermIn mid b d2 d2 := permIn_refl d2 mid b
        have HS5 : SortedIn lt mid b d2 := by rw [← C6.out]; exact HSR.out.1
        go_wp2
        (try simp only [Exit.inBlock, Exit.then])
        refine bodyPost_end (v := .tuple #[]) ?_ ?_ ?_
        case refine_1 => exact results_none rfl _ _ _
        case refine_2 => rfl
        obtain ⟨g1, g2⟩ := yy41 (by have := HF.out; omega) (by have := HF.out; omega) (Nat.le_trans hb (Nat.le_of_eq HZ1.out.symm)) HQ.out.2.2 HPP.out.1 HPP.out.2 HP5 HS5
        exact ⟨rfl, d2, S4, permIn_trans _ _ _ a b HP3.out g1, g2⟩
      ·by_cases c6 : f < b
       ·skip
        exfalso
        have := HF.out
        have := K0.out
        have := Hmid.out
        omega
       ·skip
        have zc1 : (s : Int) < (m : Int) := by omega
        have yc1 : decide ((s : Int) < (m : Int)) = true := decide_eq_true zc1
        have zc2 : (m : Int) < (f : Int) := by omega
        have yc2 : decide ((m : Int) < (f : Int)) = true := decide_eq_true zc2
        have zc3 : ¬ (a : Int) < (s : Int) := by omega
        have yc3 : decide ((a : Int) < (s : Int)) = false := decide_eq_false zc3
        have zc4 : (s : Int) < (mid : Int) := by omega
        have yc4 : decide ((s : Int) < (mid : Int)) = true := decide_eq_true zc4
        have zc5 : (mid : Int) < (f : Int) := by omega
        have yc5 : decide ((mid : Int) < (f : Int)) = true := decide_eq_true zc5
        have zc6 : ¬ (f : Int) < (b : Int) := by omega
        have yc6 : decide ((f : Int) < (b : Int)) = false := decide_eq_false zc6
        have C3 : Hid (s = a) := xh (by have := HF.out; omega)
        have C6 : Hid (f = b) := xh (by have := HF.out; omega)
        clear c3
        clear c6
        clear hkg
        have G1 := GR.out s m f d wr S1.out rfl c1 c2 (by have := HF.out; omega)
        go_wp2_with fail
        refine G1.mono ?_
        rintro e w1 ⟨rfl, d1, S2, HR2, HP2⟩
        have HZ1 := xh (show d1.size = d.size from HR2.1)
        have HS2 : Hid (SWK enc k w0 blk off d1 w1) := S2
        have HP3 : Hid (PermIn a b d d1) := permIn_mono d d1 s f a b HF.out.1 HF.out.2.2.2.1 hb HP2
        have HQ := xh (HH.out d1 HR2)
        clear S2 HR2 HP2 S1
        have S3 := HS2.out
        have HP4 : PermIn a mid d1 d1 := permIn_refl d1 a mid
        have HS4 : SortedIn lt a mid d1 := by
         have := HQ.out.1.2.1
         rwa [C3.out] at this
        have HZ2 := xh (show d1.size = d.size from HZ1.out)
        have HS3 : Hid (SWK enc k w0 blk off d1 w1) := S3
        have HPP : Hid (PermIn a mid d1 d1 ∧ SortedIn lt a mid d1) := ⟨HP4, HS4⟩
        have HSR : Hid (SortedIn lt mid f d1 ∧ SortedIn lt f b d1 ∧ ∀ x y, mid ≤ x → x < f → f ≤ y → y < b → C d1[x]! d1[y]!) :=
         ⟨yy19 HQ.out.2.1.1 fun t h1 h2 => HP4.2.1 t (Or.inr h1), yy19 HQ.out.2.1.2.1 fun t h1 h2 => HP4.2.1 t (Or.inr (by have := HF.out; omega)), fun x y h1 h2 h3 h4 => by
          rw [HP4.2.1 x (Or.inr h1), HP4.2.1 y (Or.inr (by have := HF.out; omega))]
          exact HQ.out.2.1.2.2 x y h1 h2 h3 h4⟩
        clear S3 HP4 HS4
        have S4 := HS3.out
        have HP5 : PermIn mid b d1 d1 := permIn_refl d1 mid b
        have HS5 : SortedIn lt mid b d1 := by rw [← C6.out]; exact HSR.out.1
        go_wp2
        (try simp only [Exit.inBlock, Exit.then])
        refine bodyPost_end (v := .tuple #[]) ?_ ?_ ?_
        case refine_1 => exact results_none rfl _ _ _
        case refine_2 => rfl
        obtain ⟨g1, g2⟩ := yy41 (by have := HF.out; omega) (by have := HF.out; omega) (Nat.le_trans hb (Nat.le_of_eq HZ1.out.symm)) HQ.out.2.2 HPP.out.1 HPP.out.2 HP5 HS5
        exact ⟨rfl, d1, S4, permIn_trans _ _ _ a b HP3.out g1, g2⟩
     ·have c3 : a < s := by have := HF.out; omega
      have c4 : ¬ s < mid := by have := HF.out; omega
      have c5 : mid < f := by have := HF.out; omega
      have c6 : f < b := by have := HF.out; omega
      have zc1 : (s : Int) < (m : Int) := by omega
      have yc1 : decide ((s : Int) < (m : Int)) = true := decide_eq_true zc1
      have zc2 : ¬ (m : Int) < (f : Int) := by omega
      have yc2 : decide ((m : Int) < (f : Int)) = false := decide_eq_false zc2
      have zc3 : (a : Int) < (s : Int) := by omega
      have yc3 : decide ((a : Int) < (s : Int)) = true := decide_eq_true zc3
      have zc4 : ¬ (s : Int) < (mid : Int) := by omega
      have yc4 : decide ((s : Int) < (mid : Int)) = false := decide_eq_false zc4
      have zc5 : (mid : Int) < (f : Int) := by omega
      have yc5 : decide ((mid : Int) < (f : Int)) = true := decide_eq_true zc5
      have zc6 : (f : Int) < (b : Int) := by omega
      have yc6 : decide ((f : Int) < (b : Int)) = true := decide_eq_true zc6
      have C2 : Hid (f = m) := xh (by have := HF.out; omega)
      have C4 : Hid (s = mid) := xh (by have := HF.out; omega)
      clear c2
      clear c4
      clear hkg
      have S2 := S1.out
      have HP2 : PermIn s f d d := permIn_refl d s f
      have HR2 : RotRes d s m f d := by rw [C2.out]; exact yy518 d s m
      have HZ1 := xh (show d.size = d.size from rfl)
      have HS2 : Hid (SWK enc k w0 blk off d wr) := S2
      have HP3 : Hid (PermIn a b d d) := permIn_mono d d s f a b HF.out.1 HF.out.2.2.2.1 hb HP2
      have HQ := xh (HH.out d HR2)
      clear S2 HR2 HP2 S1
      have S3 := HS2.out
      have HP4 : PermIn a mid d d := permIn_refl d a mid
      have HS4 : SortedIn lt a mid d := by rw [← C4.out]; exact HQ.out.1.1
      have HZ2 := xh (show d.size = d.size from HZ1.out)
      have HS3 : Hid (SWK enc k w0 blk off d wr) := S3
      have HPP : Hid (PermIn a mid d d ∧ SortedIn lt a mid d) := ⟨HP4, HS4⟩
      have HSR : Hid (SortedIn lt mid f d ∧ SortedIn lt f b d ∧ ∀ x y, mid ≤ x → x < f → f ≤ y → y < b → C d[x]! d[y]!) :=
       ⟨yy19 HQ.out.2.1.1 fun t h1 h2 => HP4.2.1 t (Or.inr h1), yy19 HQ.out.2.1.2.1 fun t h1 h2 => HP4.2.1 t (Or.inr (by have := HF.out; omega)), fun x y h1 h2 h3 h4 => by
        rw [HP4.2.1 x (Or.inr h1), HP4.2.1 y (Or.inr (by have := HF.out; omega))]
        exact HQ.out.2.1.2.2 x y h1 h2 h3 h4⟩
      clear S3 HP4 HS4
      have G3 := GM.out mid f b d wr HS3.out HZ2.out (by have := HF.out; omega) c5 c6 hb HSR.out.1 HSR.out.2.1 HSR.out.2.2
      go_wp2_with fail
      refine G3.mono ?_
      rintro e w3 ⟨rfl, d3, S4, HP5, HS5⟩
      go_wp2
      (try simp only [Exit.inBlock, Exit.then])
      refine bodyPost_end (v := .tuple #[]) ?_ ?_ ?_
      case refine_1 => exact results_none rfl _ _ _
      case refine_2 => rfl
      obtain ⟨g1, g2⟩ := yy41 (by have := HF.out; omega) (by have := HF.out; omega) hb HQ.out.2.2 HPP.out.1 HPP.out.2 HP5 HS5
      exact ⟨rfl, d3, S4, permIn_trans _ _ _ a b HP3.out g1, g2⟩
    ·have c3 : a < s := by have := HF.out; omega
     have c5 : ¬ mid < f := by have := HF.out; omega
     by_cases c4 : s < mid
     ·skip
      exfalso
      have := HF.out
      have := K0.out
      have := Hmid.out
      omega
     ·skip
      exfalso
      have := HF.out
      have := K0.out
      have := Hmid.out
      omega
 ·have hmz : ¬ (mid : Int) < (m : Int) := by omega
  have HE : Hid (a = s0 ∧ m = r0) := ⟨by rw [if_neg hm] at hs0; exact hs0, by rw [if_neg hm] at hr0; exact hr0⟩
  clear hs0 hr0 hnn hpp
  go_wp2
  go_loopg [20, 21] (r0 - s0) (fun kx s20 s21 wr => ∃ s r : Nat, s20 = .int .i64 s ∧ s21 = .int .i64 r ∧ s0 ≤ s ∧ s ≤ r ∧ r ≤ r0 ∧ r - s ≤ kx ∧ Hid (SWK enc k w0 blk off d wr) ∧ Hid (∀ x y, a ≤ x → x < s → nn - s ≤ y → y < b → lt d[y]! d[x]! = false) ∧ Hid (∀ x y, r ≤ x → x < m → m ≤ y → y < nn - r → lt d[x]! d[y]! = false))
  case atStart => exact ⟨s0, r0, by rw [HE.out.1], by rw [HE.out.2], Nat.le_refl _, K0.out.2.1, Nat.le_refl _, Nat.le_refl _, S0, (fun x y h1 h2 h3 h4 => by have := K0.out; omega), (fun x y h1 h2 h3 h4 => by have := K0.out; omega)⟩
  case round =>
   clear S0
   obtain ⟨s, r, rfl, rfl, hs, hsr, hrr, hkx, S1, HA, HB⟩ := hrel
   by_cases hlt : s < r
   ·have hltz : (s : Int) < (r : Int) := by omega
    have hr1 : r < 1099511627776 := by have := K0.out; omega
    obtain ⟨sm, hsm⟩ : ∃ x, s + r = x := ⟨_, rfl⟩
    obtain ⟨h, hh⟩ : ∃ x, sm / 2 = x := ⟨_, rfl⟩
    have esm : (s : Int) + (r : Int) = (sm : Int) := by omega
    have wsm : IntKind.u64.wrap (sm : Int) = (sm : Int) := by rw [IntKind.wrap_u64]; omega
    have dsm : (sm : Int) / 2 = (h : Int) := by omega
    have d2sm : (sm : Int) >>> 1 = (h : Int) := by rw [Int.shiftRight_eq_div_pow]; omega
    have wsh : IntKind.i64.wrap (h : Int) = (h : Int) := by rw [IntKind.wrap_i64]; omega
    have wuh : IntKind.u64.wrap (h : Int) = (h : Int) := by rw [IntKind.wrap_u64]; omega
    have Hh : Hid ((s + r) / 2 = h) := by show _ = _; rw [hsm]; exact hh
    have b1h : s ≤ h := by omega
    have b2h : h < r ∨ s = r := by omega
    clear hsm hh
    obtain ⟨q, hq⟩ : ∃ q, pp - h = q := ⟨_, rfl⟩
    have eq1 : (pp : Int) - (h : Int) = (q : Int) := by have := K0.out; omega
    have hbd : h < d.size := by have := K0.out; omega
    have had : q < d.size := by have := K0.out; omega
    have hk : a ≤ h ∧ h < m ∧ m ≤ q ∧ q < b ∧ nn - (h + 1) = q ∧ nn - h = q + 1 := by have := K0.out; omega
    have HK : Hid (a ≤ h ∧ h < m ∧ m ≤ q ∧ q < b ∧ nn - (h + 1) = q ∧ nn - h = q + 1) := hk
    clear hk hq
    have eha : ((h : Int)).toNat = h := by omega
    have ehp : (0 : Int) ≤ (h : Int) := by omega
    have ehb : (h : Int) < (d.size : Int) := by omega
    have ehw : IntKind.i64.wrap ((h : Int)) = (h : Int) := by rw [IntKind.wrap_i64]; omega
    have eqa : ((q : Int)).toNat = q := by omega
    have eqp : (0 : Int) ≤ (q : Int) := by omega
    have eqb : (q : Int) < (d.size : Int) := by omega
    have eqw : IntKind.i64.wrap ((q : Int)) = (q : Int) := by rw [IntKind.wrap_i64]; omega
    obtain ⟨xi, hxi⟩ : ∃ x, d[q]! = x := ⟨_, rfl⟩
    obtain ⟨xj, hxj⟩ : ∃ x, d[h]! = x := ⟨_, rfl⟩
    have li : ∀ n' os', Sem.run P (loadCellsFrom ⟨blk, off + q * k, none⟩ 0 k #[]) (grow (wr.drewN n') os') = .ok (enc xi).toArray (grow (wr.drewN n') os') := fun n' os' => by rw [← hxi]; exact S1.out.ld RR.out (by omega) P q (by omega) n' os'
    have lj : ∀ n' os', Sem.run P (loadCellsFrom ⟨blk, off + h * k, none⟩ 0 k #[]) (grow (wr.drewN n') os') = .ok (enc xj).toArray (grow (wr.drewN n') os') := fun n' os' => by rw [← hxj]; exact S1.out.ld RR.out (by omega) P h (by omega) n' os'
    have hcg : ∀ n' os', Calls P g (#[.agg (enc xi).toArray, .agg (enc xj).toArray] ++ cb) (grow (wr.drewN n') os') fun e w' => e = .returned (.int .i64 (cn xi xj)) ∧ ∃ q os'', w' = grow ((grow (wr.drewN n') os').drewN q) os'' := fun n' os' => S1.out.cmp HC.out (by omega) xi xj n' os'
    have SG : Hid (∀ n' os', SWK enc k w0 blk off d (grow (wr.drewN n') os')) := fun n' os' => S1.out.grown n' os'
    have HXI : Hid (d[q]! = xi ∧ d[h]! = xj) := ⟨hxi, hxj⟩
    clear hxi hxj S1
    by_cases hv : cn xi xj < 0
    ·have HV : Hid (cn xi xj < 0) := hv
     have hvd : decide (cn xi xj < 0) = true := decide_eq_true hv
     have hvn : (!decide (cn xi xj < 0)) = false := by rw [hvd]; rfl
     go_wp2_with fail
     go_quiet_grown (first | (go_at_fn g; refine Calls.grown_of (hcg _ _)))
     go_wp2
     go_roundg (h - s)
     case measure => omega
     case rel => exact ⟨s, h, rfl, rfl, hs, by omega, by omega, Nat.le_refl _, SG.out _ _, HA.out, by
      show ∀ x y, h ≤ x → x < m → m ≤ y → y < nn - h → lt d[x]! d[y]! = false
      rw [HK.out.2.2.2.2.2]
      exact yy392 HO.out.swo HL.out HR.out HK.out.1 HK.out.2.2.2.1 (HO.out.yes _ _ (HX.out h q HK.out.1 HK.out.2.1 HK.out.2.2.1 HK.out.2.2.2.1) (by rw [HXI.out.1, HXI.out.2]; have := HV.out; omega))⟩
    ·have HV : Hid (¬ cn xi xj < 0) := hv
     have hvd : decide (cn xi xj < 0) = false := decide_eq_false hv
     have hvn : (!decide (cn xi xj < 0)) = true := by rw [hvd]; rfl
     go_wp2_with fail
     go_quiet_grown (first | (go_at_fn g; refine Calls.grown_of (hcg _ _)))
     go_wp2
     go_roundg (r - (h + 1))
     case measure => omega
     case rel => exact ⟨h + 1, r, by first | rfl | simp, rfl, by omega, by omega, hrr, Nat.le_refl _, SG.out _ _, by
      show ∀ x y, a ≤ x → x < h + 1 → nn - (h + 1) ≤ y → y < b → lt d[y]! d[x]! = false
      rw [HK.out.2.2.2.2.1]
      exact yy525 HO.out.swo HL.out HR.out HK.out.2.1 HK.out.2.2.1 (HO.out.no _ _ (HX.out h q HK.out.1 HK.out.2.1 HK.out.2.2.1 HK.out.2.2.2.1) (by rw [HXI.out.1, HXI.out.2]; have := HV.out; omega)), HB.out⟩
   ·have hltz : ¬ (s : Int) < (r : Int) := by omega
    obtain rfl : s = r := by omega
    obtain ⟨f, hf⟩ : ∃ x, nn - s = x := ⟨_, rfl⟩
    have hkf : (nn : Int) - (s : Int) = (f : Int) ∧ a ≤ s ∧ s ≤ m ∧ m ≤ f ∧ f ≤ b ∧ s + (f - m) = mid ∧ s ≤ mid ∧ mid ≤ f ∧ a < mid ∧ mid < b := by have := K0.out; omega
    have ef := hkf.1
    have HF : Hid (a ≤ s ∧ s ≤ m ∧ m ≤ f ∧ f ≤ b ∧ s + (f - m) = mid ∧ s ≤ mid ∧ mid ≤ f ∧ a < mid ∧ mid < b ∧ nn = s + f ∧ s ≤ r0 ∧ s0 ≤ s) := xh (by have := hkf.2; have := K0.out; omega)
    rw [hf] at HA HB
    have HH := xh (fun (d1 : Array α) (h : RotRes d s m f d1) => by
     have := yy296 (lt := lt) h HF.out.1 HF.out.2.1 HF.out.2.2.1 HF.out.2.2.2.1 C HL.out HR.out HX.out HA.out HB.out
     rwa [HF.out.2.2.2.2.1] at this)
    have hkg := hkf.2
    clear hkf hf HA HB hrr hkx hsr hltz hlt
    by_cases c1 : s < m
    ·by_cases c2 : m < f
     ·have c4 : s < mid := by have := HF.out; omega
      have c5 : mid < f := by have := HF.out; omega
      by_cases c3 : a < s
      ·by_cases c6 : f < b
       ·skip
        have zc1 : (s : Int) < (m : Int) := by omega
        have yc1 : decide ((s : Int) < (m : Int)) = true := decide_eq_true zc1
        have zc2 : (m : Int) < (f : Int) := by omega
        have yc2 : decide ((m : Int) < (f : Int)) = true := decide_eq_true zc2
        have zc3 : (a : Int) < (s : Int) := by omega
        have yc3 : decide ((a : Int) < (s : Int)) = true := decide_eq_true zc3
        have zc4 : (s : Int) < (mid : Int) := by omega
        have yc4 : decide ((s : Int) < (mid : Int)) = true := decide_eq_true zc4
        have zc5 : (mid : Int) < (f : Int) := by omega
        have yc5 : decide ((mid : Int) < (f : Int)) = true := decide_eq_true zc5
        have zc6 : (f : Int) < (b : Int) := by omega
        have yc6 : decide ((f : Int) < (b : Int)) = true := decide_eq_true zc6
        clear hkg
        have G1 := GR.out s m f d wr S1.out rfl c1 c2 (by have := HF.out; omega)
        go_wp2_with fail
        refine G1.mono ?_
        rintro e w1 ⟨rfl, d1, S2, HR2, HP2⟩
        have HZ1 := xh (show d1.size = d.size from HR2.1)
        have HS2 : Hid (SWK enc k w0 blk off d1 w1) := S2
        have HP3 : Hid (PermIn a b d d1) := permIn_mono d d1 s f a b HF.out.1 HF.out.2.2.2.1 hb HP2
        have HQ := xh (HH.out d1 HR2)
        clear S2 HR2 HP2 S1
        have G2 := GM.out a s mid d1 w1 HS2.out HZ1.out (by have := HF.out; omega) c3 c4 (by have := HF.out; omega) HQ.out.1.1 HQ.out.1.2.1 HQ.out.1.2.2
        go_wp2_with fail
        refine G2.mono ?_
        rintro e w2 ⟨rfl, d2, S3, HP4, HS4⟩
        have HZ2 := xh (show d2.size = d.size from HP4.1.trans HZ1.out)
        have HS3 : Hid (SWK enc k w0 blk off d2 w2) := S3
        have HPP : Hid (PermIn a mid d1 d2 ∧ SortedIn lt a mid d2) := ⟨HP4, HS4⟩
        have HSR : Hid (SortedIn lt mid f d2 ∧ SortedIn lt f b d2 ∧ ∀ x y, mid ≤ x → x < f → f ≤ y → y < b → C d2[x]! d2[y]!) :=
         ⟨yy19 HQ.out.2.1.1 fun t h1 h2 => HP4.2.1 t (Or.inr h1), yy19 HQ.out.2.1.2.1 fun t h1 h2 => HP4.2.1 t (Or.inr (by have := HF.out; omega)), fun x y h1 h2 h3 h4 => by
          rw [HP4.2.1 x (Or.inr h1), HP4.2.1 y (Or.inr (by have := HF.out; omega))]
          exact HQ.out.2.1.2.2 x y h1 h2 h3 h4⟩
        clear S3 HP4 HS4
        have G3 := GM.out mid f b d2 w2 HS3.out HZ2.out (by have := HF.out; omega) c5 c6 hb HSR.out.1 HSR.out.2.1 HSR.out.2.2
        go_wp2_with fail
        refine G3.mono ?_
        rintro e w3 ⟨rfl, d3, S4, HP5, HS5⟩
        go_wp2
        (try simp only [Exit.inBlock, Exit.then])
        refine bodyPost_end (v := .tuple #[]) ?_ ?_ ?_
        case refine_1 => exact results_none rfl _ _ _
        case refine_2 => rfl
        obtain ⟨g1, g2⟩ := yy41 (by have := HF.out; omega) (by have := HF.out; omega) (Nat.le_trans hb (Nat.le_of_eq HZ1.out.symm)) HQ.out.2.2 HPP.out.1 HPP.out.2 HP5 HS5
        exact ⟨rfl, d3, S4, permIn_trans _ _ _ a b HP3.out g1, g2⟩
       ·skip
        exfalso
        have := HF.out
        have := K0.out
        have := Hmid.out
        omega
      ·by_cases c6 : f < b
       ·skip
        have zc1 : (s : Int) < (m : Int) := by omega
        have yc1 : decide ((s : Int) < (m : Int)) = true := decide_eq_true zc1
        have zc2 : (m : Int) < (f : Int) := by omega
        have yc2 : decide ((m : Int) < (f : Int)) = true := decide_eq_true zc2
        have zc3 : ¬ (a : Int) < (s : Int) := by omega
        have yc3 : decide ((a : Int) < (s : Int)) = false := decide_eq_false zc3
        have zc4 : (s : Int) < (mid : Int) := by omega
        have yc4 : decide ((s : Int) < (mid : Int)) = true := decide_eq_true zc4
        have zc5 : (mid : Int) < (f : Int) := by omega
        have yc5 : decide ((mid : Int) < (f : Int)) = true := decide_eq_true zc5
        have zc6 : (f : Int) < (b : Int) := by omega
        have yc6 : decide ((f : Int) < (b : Int)) = true := decide_eq_true zc6
        have C3 : Hid (s = a) := xh (by have := HF.out; omega)
        clear c3
        clear hkg
        have G1 := GR.out s m f d wr S1.out rfl c1 c2 (by have := HF.out; omega)
        go_wp2_with fail
        refine G1.mono ?_
        rintro e w1 ⟨rfl, d1, S2, HR2, HP2⟩
        have HZ1 := xh (show d1.size = d.size from HR2.1)
        have HS2 : Hid (SWK enc k w0 blk off d1 w1) := S2
        have HP3 : Hid (PermIn a b d d1) := permIn_mono d d1 s f a b HF.out.1 HF.out.2.2.2.1 hb HP2
        have HQ := xh (HH.out d1 HR2)
        clear S2 HR2 HP2 S1
        have S3 := HS2.out
        have HP4 : PermIn a mid d1 d1 := permIn_refl d1 a mid
        have HS4 : SortedIn lt a mid d1 := by
         have := HQ.out.1.2.1
         rwa [C3.out] at this
        have HZ2 := xh (show d1.size = d.size from HZ1.out)
        have HS3 : Hid (SWK enc k w0 blk off d1 w1) := S3
        have HPP : Hid (PermIn a mid d1 d1 ∧ SortedIn lt a mid d1) := ⟨HP4, HS4⟩
        have HSR : Hid (SortedIn lt mid f d1 ∧ SortedIn lt f b d1 ∧ ∀ x y, mid ≤ x → x < f → f ≤ y → y < b → C d1[x]! d1[y]!) :=
         ⟨yy19 HQ.out.2.1.1 fun t h1 h2 => HP4.2.1 t (Or.inr h1), yy19 HQ.out.2.1.2.1 fun t h1 h2 => HP4.2.1 t (Or.inr (by have := HF.out; omega)), fun x y h1 h2 h3 h4 => by
          rw [HP4.2.1 x (Or.inr h1), HP4.2.1 y (Or.inr (by have := HF.out; omega))]
          exact HQ.out.2.1.2.2 x y h1 h2 h3 h4⟩
        clear S3 HP4 HS4
        have G3 := GM.out mid f b d1 w1 HS3.out HZ2.out (by have := HF.out; omega) c5 c6 hb HSR.out.1 HSR.out.2.1 HSR.out.2.2
        go_wp2_with fail
        refine G3.mono ?_
        rintro e w3 ⟨rfl, d3, S4, HP5, HS5⟩
        go_wp2
        (try simp only [Exit.inBlock, Exit.then])
        refine bodyPost_end (v := .tuple #[]) ?_ ?_ ?_
        case refine_1 => exact results_none rfl _ _ _
        case refine_2 => rfl
        obtain ⟨g1, g2⟩ := yy41 (by have := HF.out; omega) (by have := HF.out; omega) (Nat.le_trans hb (Nat.le_of_eq HZ1.out.symm)) HQ.out.2.2 HPP.out.1 HPP.out.2 HP5 HS5
        exact ⟨rfl, d3, S4, permIn_trans _ _ _ a b HP3.out g1, g2⟩
       ·skip
        have zc1 : (s : Int) < (m : Int) := by omega
        have yc1 : decide ((s : Int) < (m : Int)) = true := decide_eq_true zc1
        have zc2 : (m : Int) < (f : Int) := by omega
        have yc2 : decide ((m : Int) < (f : Int)) = true := decide_eq_true zc2
        have zc3 : ¬ (a : Int) < (s : Int) := by omega
        have yc3 : decide ((a : Int) < (s : Int)) = false := decide_eq_false zc3
        have zc4 : (s : Int) < (mid : Int) := by omega
        have yc4 : decide ((s : Int) < (mid : Int)) = true := decide_eq_true zc4
        have zc5 : (mid : Int) < (f : Int) := by omega
        have yc5 : decide ((mid : Int) < (f : Int)) = true := decide_eq_true zc5
        have zc6 : ¬ (f : Int) < (b : Int) := by omega
        have yc6 : decide ((f : Int) < (b : Int)) = false := decide_eq_false zc6
        have C3 : Hid (s = a) := xh (by have := HF.out; omega)
        have C6 : Hid (f = b) := xh (by have := HF.out; omega)
        clear c3
        clear c6
        clear hkg
        have G1 := GR.out s m f d wr S1.out rfl c1 c2 (by have := HF.out; omega)
        go_wp2_with fail
        refine G1.mono ?_
        rintro e w1 ⟨rfl, d1, S2, HR2, HP2⟩
        have HZ1 := xh (show d1.size = d.size from HR2.1)
        have HS2 : Hid (SWK enc k w0 blk off d1 w1) := S2
        have HP3 : Hid (PermIn a b d d1) := permIn_mono d d1 s f a b HF.out.1 HF.out.2.2.2.1 hb HP2
        have HQ := xh (HH.out d1 HR2)
        clear S2 HR2 HP2 S1
        have S3 := HS2.out
        have HP4 : PermIn a mid d1 d1 := permIn_refl d1 a mid
        have HS4 : SortedIn lt a mid d1 := by
         have := HQ.out.1.2.1
         rwa [C3.out] at this
        have HZ2 := xh (show d1.size = d.size from HZ1.out)
        have HS3 : Hid (SWK enc k w0 blk off d1 w1) := S3
        have HPP : Hid (PermIn a mid d1 d1 ∧ SortedIn lt a mid d1) := ⟨HP4, HS4⟩
        have HSR : Hid (SortedIn lt mid f d1 ∧ SortedIn lt f b d1 ∧ ∀ x y, mid ≤ x → x < f → f ≤ y → y < b → C d1[x]! d1[y]!) :=
         ⟨yy19 HQ.out.2.1.1 fun t h1 h2 => HP4.2.1 t (Or.inr h1), yy19 HQ.out.2.1.2.1 fun t h1 h2 => HP4.2.1 t (Or.inr (by have := HF.out; omega)), fun x y h1 h2 h3 h4 => by
          rw [HP4.2.1 x (Or.inr h1), HP4.2.1 y (Or.inr (by have := HF.out; omega))]
          exact HQ.out.2.1.2.2 x y h1 h2 h3 h4⟩
        clear S3 HP4 HS4
        have S4 := HS3.out
        have HP5 : PermIn mid b d1 d1 := permIn_refl d1 mid b
        have HS5 : SortedIn lt mid b d1 := by rw [← C6.out]; exact HSR.out.1
        go_wp2
        (try simp only [Exit.inBlock, Exit.then])
        refine bodyPost_end (v := .tuple #[]) ?_ ?_ ?_
        case refine_1 => exact results_none rfl _ _ _
        case refine_2 => rfl
        obtain ⟨g1, g2⟩ := yy41 (by have := HF.out; omega) (by have := HF.out; omega) (Nat.le_trans hb (Nat.le_of_eq HZ1.out.symm)) HQ.out.2.2 HPP.out.1 HPP.out.2 HP5 HS5
        exact ⟨rfl, d1, S4, permIn_trans _ _ _ a b HP3.out g1, g2⟩
     ·have c3 : a < s := by have := HF.out; omega
      have c4 : ¬ s < mid := by have := HF.out; omega
      have c5 : mid < f := by have := HF.out; omega
      have c6 : f < b := by have := HF.out; omega
      exfalso
      have := HF.out
      have := K0.out
      have := Hmid.out
      omega
    ·have c3 : a < s := by have := HF.out; omega
     have c5 : ¬ mid < f := by have := HF.out; omega
     by_cases c4 : s < mid
     ·skip
      have zc1 : ¬ (s : Int) < (m : Int) := by omega
      have yc1 : decide ((s : Int) < (m : Int)) = false := decide_eq_false zc1
      have zc3 : (a : Int) < (s : Int) := by omega
      have yc3 : decide ((a : Int) < (s : Int)) = true := decide_eq_true zc3
      have zc4 : (s : Int) < (mid : Int) := by omega
      have yc4 : decide ((s : Int) < (mid : Int)) = true := decide_eq_true zc4
      have zc5 : ¬ (mid : Int) < (f : Int) := by omega
      have yc5 : decide ((mid : Int) < (f : Int)) = false := decide_eq_false zc5
      have C1 : Hid (s = m) := xh (by have := HF.out; omega)
      have C5 : Hid (f = mid) := xh (by have := HF.out; omega)
      clear c1
      clear c5
      clear hkg
      have S2 := S1.out
      have HP2 : PermIn s f d d := permIn_refl d s f
      have HR2 : RotRes d s m f d := by rw [C1.out]; exact yy519 d m f
      have HZ1 := xh (show d.size = d.size from rfl)
      have HS2 : Hid (SWK enc k w0 blk off d wr) := S2
      have HP3 : Hid (PermIn a b d d) := permIn_mono d d s f a b HF.out.1 HF.out.2.2.2.1 hb HP2
      have HQ := xh (HH.out d HR2)
      clear S2 HR2 HP2 S1
      have G2 := GM.out a s mid d wr HS2.out HZ1.out (by have := HF.out; omega) c3 c4 (by have := HF.out; omega) HQ.out.1.1 HQ.out.1.2.1 HQ.out.1.2.2
      go_wp2_with fail
      refine G2.mono ?_
      rintro e w2 ⟨rfl, d2, S3, HP4, HS4⟩
      have HZ2 := xh (show d2.size = d.size from HP4.1)
      have HS3 : Hid (SWK enc k w0 blk off d2 w2) := S3
      have HPP : Hid (PermIn a mid d d2 ∧ SortedIn lt a mid d2) := ⟨HP4, HS4⟩
      have HSR : Hid (SortedIn lt mid f d2 ∧ SortedIn lt f b d2 ∧ ∀ x y, mid ≤ x → x < f → f ≤ y → y < b → C d2[x]! d2[y]!) :=
       ⟨yy19 HQ.out.2.1.1 fun t h1 h2 => HP4.2.1 t (Or.inr h1), yy19 HQ.out.2.1.2.1 fun t h1 h2 => HP4.2.1 t (Or.inr (by have := HF.out; omega)), fun x y h1 h2 h3 h4 => by
        rw [HP4.2.1 x (Or.inr h1), HP4.2.1 y (Or.inr (by have := HF.out; omega))]
        exact HQ.out.2.1.2.2 x y h1 h2 h3 h4⟩
      clear S3 HP4 HS4
      have S4 := HS3.out
      have HP5 : PermIn mid b d2 d2 := permIn_refl d2 mid b
      have HS5 : SortedIn lt mid b d2 := by
       have := HSR.out.2.1
       rwa [C5.out] at this
      go_wp2
      (try simp only [Exit.inBlock, Exit.then])
      refine bodyPost_end (v := .tuple #[]) ?_ ?_ ?_
      case refine_1 => exact results_none rfl _ _ _
      case refine_2 => rfl
      obtain ⟨g1, g2⟩ := yy41 (by have := HF.out; omega) (by have := HF.out; omega) hb HQ.out.2.2 HPP.out.1 HPP.out.2 HP5 HS5
      exact ⟨rfl, d2, S4, permIn_trans _ _ _ a b HP3.out g1, g2⟩
     ·skip
      have zc1 : ¬ (s : Int) < (m : Int) := by omega
      have yc1 : decide ((s : Int) < (m : Int)) = false := decide_eq_false zc1
      have zc3 : (a : Int) < (s : Int) := by omega
      have yc3 : decide ((a : Int) < (s : Int)) = true := decide_eq_true zc3
      have zc4 : ¬ (s : Int) < (mid : Int) := by omega
      have yc4 : decide ((s : Int) < (mid : Int)) = false := decide_eq_false zc4
      have zc5 : ¬ (mid : Int) < (f : Int) := by omega
      have yc5 : decide ((mid : Int) < (f : Int)) = false := decide_eq_false zc5
      have C1 : Hid (s = m) := xh (by have := HF.out; omega)
      have C4 : Hid (s = mid) := xh (by have := HF.out; omega)
      have C5 : Hid (f = mid) := xh (by have := HF.out; omega)
      clear c1
      clear c4
      clear c5
      clear hkg
      have S2 := S1.out
      have HP2 : PermIn s f d d := permIn_refl d s f
      have HR2 : RotRes d s m f d := by rw [C1.out]; exact yy519 d m f
      have HZ1 := xh (show d.size = d.size from rfl)
      have HS2 : Hid (SWK enc k w0 blk off d wr) := S2
      have HP3 : Hid (PermIn a b d d) := permIn_mono d d s f a b HF.out.1 HF.out.2.2.2.1 hb HP2
      have HQ := xh (HH.out d HR2)
      clear S2 HR2 HP2 S1
      have S3 := HS2.out
      have HP4 : PermIn a mid d d := permIn_refl d a mid
      have HS4 : SortedIn lt a mid d := by rw [← C4.out]; exact HQ.out.1.1
      have HZ2 := xh (show d.size = d.size from HZ1.out)
      have HS3 : Hid (SWK enc k w0 blk off d wr) := S3
      have HPP : Hid (PermIn a mid d d ∧ SortedIn lt a mid d) := ⟨HP4, HS4⟩
      have HSR : Hid (SortedIn lt mid f d ∧ SortedIn lt f b d ∧ ∀ x y, mid ≤ x → x < f → f ≤ y → y < b → C d[x]! d[y]!) :=
       ⟨yy19 HQ.out.2.1.1 fun t h1 h2 => HP4.2.1 t (Or.inr h1), yy19 HQ.out.2.1.2.1 fun t h1 h2 => HP4.2.1 t (Or.inr (by have := HF.out; omega)), fun x y h1 h2 h3 h4 => by
        rw [HP4.2.1 x (Or.inr h1), HP4.2.1 y (Or.inr (by have := HF.out; omega))]
        exact HQ.out.2.1.2.2 x y h1 h2 h3 h4⟩
      clear S3 HP4 HS4
      have S4 := HS3.out
      have HP5 : PermIn mid b d d := permIn_refl d mid b
      have HS5 : SortedIn lt mid b d := by
       have := HSR.out.2.1
       rwa [C5.out] at this
      go_wp2
      (try simp only [Exit.inBlock, Exit.then])
      refine bodyPost_end (v := .tuple #[]) ?_ ?_ ?_
      case refine_1 => exact results_none rfl _ _ _
      case refine_2 => rfl
      obtain ⟨g1, g2⟩ := yy41 (by have := HF.out; omega) (by have := HF.out; omega) hb HQ.out.2.2 HPP.out.1 HPP.out.2 HP5 HS5
      exact ⟨rfl, d, S4, permIn_trans _ _ _ a b HP3.out g1, g2⟩
variable {P : Program} {α : Type} [Inhabited α] {enc : α → List Value} {k : Nat} {w0 : World} {blk off : Nat} {d0 : Array α}
theorem yy349 (L : LaysS P k) (R : RowK enc k w0 blk off d0) {lt : α → α → Bool} {C : α → α → Prop} {cn : α → α → Int} (O : Ord lt C cn) (g : Nat) (cb : Array Value) (cap : Nat)
  (eg : ∀ args w, (callFunc g args).run P w = .ok (.enter g args) w) (hcmp : CmpLays P g cb enc k cn blk off d0.size w0) (hsz : d0.size < 1099511627776) (N : Nat) : yy636 P enc k w0 blk off d0 lt C g cb cap N := by
 induction N using Nat.strongRecOn with
 | _ N ih =>
  intro a m b d w hN ham hmb hb hd S hl hr hC
  by_cases h1 : m = a + 1
  ·exact yy348 L R O g cb cap eg hcmp hsz a m b d w h1 ham hmb hb hd S hl hr hC
  by_cases h2 : b = m + 1
  ·exact yy298 L R O g cb cap eg hcmp hsz a m b d w h2 h1 ham hmb hb hd S hl hr hC
  ·exact yy299 L R O g cb cap eg hcmp hsz a m b d w (fun M hM => ih M (by omega)) h1 h2 ham hmb hb hd S hl hr hC
variable {α : Type} [Inhabited α] {enc : α × Nat → List Value} {w0 : World} {blk off : Nat} {d0 : Array (α × Nat)}
omit [Inhabited α] in
theorem ord_lx (key : α → Int) : Ord (lx key) (fun x y => x.2 < y.2) (cf key) := ⟨lx_swo key, fun _ _ _ h => cf_lt key h, fun _ _ hn h => cf_ge key h hn⟩
set_option maxHeartbeats 8000000 in
set_option maxRecDepth 1000000 in
theorem yy350 (key : α → Int) (R : RowK enc 6 w0 blk off d0) (g : Nat) (cb : Array Value) (cap n : Nat) (hn : d0.size = n) (hI : Idx n d0)
  (eg : ∀ args w, (callFunc g args).run Tryd.prog w = .ok (.enter g args) w) (hcmp : CmpLays Tryd.prog g cb enc 6 (cf key) blk off n w0) (hsz : n < 1048577) :
  Calls Tryd.prog 83 #[.slice (some ⟨blk, off, none⟩) n cap, .int .i64 n, .func (.func g) #[] cb] w0 fun e w' => e = .returned (.tuple #[]) ∧ ∃ d', SWK enc 6 w0 blk off d' w' ∧ PermIn 0 n d0 d' ∧ SortedIn (lx key) 0 n d' := by
 have e68 : ∀ args w, (callFunc 99 args).run Tryd.prog w = .ok (.enter 99 args) w := enters_of Tryd.func99 (by kernel_rfl) rfl
 have e69 : ∀ args w, (callFunc 100 args).run Tryd.prog w = .ok (.enter 100 args) w := enters_of Tryd.func100 (by kernel_rfl) rfl
 have GI := xh (fun (x y : Nat) (dk : Array (α × Nat)) (wr : World) (hS : SWK enc 6 w0 blk off dk wr) (hdk : dk.size = n) (h1 : x ≤ y) (h2 : y ≤ n) => by
  have hc : CmpLays Tryd.prog g cb enc 6 (cf key) blk off dk.size wr := fun m os dj hj u v => by
   obtain ⟨m2, os2, e⟩ := hS.on R.hblk m dj os (by omega)
   rw [e]
   exact hcmp m2 os2 dj (by omega) u v
  have := AnyQ.insertionSortCmpFunc Tryd.insActs 6 (fun w => Tryd.isAgg46 w) (fun w => Tryd.sizeOf46 w) enc R.hk R.h1 (cf key) g cb blk off cap x y dk wr eg hc (hS.holds R.hblk R.hH (by omega)) (hS.lt R.hblk) h1 (by omega) (by omega)
  rw [hdk] at this
  have h3 := this.mono (R' := fun e w' => e = Ending.returned (.tuple #[]) ∧ SWK enc 6 w0 blk off (Sort.insertionSort (fun u v => decide (cf key u v < 0)) dk x y) w') (by
   rintro e w' ⟨h1, m, os, rfl⟩
   exact ⟨h1, hS.on R.hblk m _ os (yy520 (ltOf (cf key)) dk x y (by omega))⟩)
  exact h3)
 have GM := xh (fun (x m b : Nat) (dk : Array (α × Nat)) (wr : World) (hS : SWK enc 6 w0 blk off dk wr) (hdk : dk.size = n) (h1 : x < m) (h2 : m < b) (h3 : b ≤ n) (s1 : SortedIn (lx key) x m dk) (s2 : SortedIn (lx key) m b dk) (hx : ∀ p q, x ≤ p → p < m → m ≤ q → q < b → dk[p]!.2 < dk[q]!.2) => by
  have := yy349 laysS R (ord_lx key) g cb cap eg (by rw [hn]; exact hcmp) (by omega) (b - x) x m b dk wr (Nat.le_refl _) h1 h2 (by omega) (by omega) hS s1 s2 hx
  unfold yy144 at this
  rwa [hdk] at this)
 have S0 : Hid (SWK enc 6 w0 blk off d0 w0) := SWK.start R.hH
 have HI : Hid (Idx n d0 ∧ d0.size = n) := ⟨hI, hn⟩
 clear R hcmp hI hn
 obtain ⟨wA, hwA⟩ : ∃ x, x = w0 := ⟨_, rfl⟩
 rw [← hwA] at S0 GI GM ⊢
 clear hwA
 go_enter Tryd.func83, Tryd.ntmps83
 go_wp2
 go_loopg [7, 8] n (fun kx s7 s8 wr => ∃ (k x y : Nat) (dk : Array (α × Nat)), s7 = .int .i64 x ∧ s8 = .int .i64 y ∧ y = x + 20 ∧ x ≤ n ∧ n - x ≤ kx ∧ Hid (x = k * 20) ∧ Hid (dk.size = n) ∧ Hid (SWK enc 6 wA blk off dk wr) ∧ Hid (Pre key 20 k n d0 dk))
 case atStart => exact ⟨0, 0, 20, d0, rfl, rfl, rfl, Nat.zero_le _, Nat.le_refl _, rfl, HI.out.2, S0, yy592 20 n d0⟩
 case round =>
  clear S0
  obtain ⟨k, x, y, dk, rfl, rfl, hxy, hxn, hkx, HK, HD, S1, HP⟩ := hrel
  by_cases hyn : y ≤ n
  ·have hz1 : (y : Int) ≤ (n : Int) := by omega
   have G1 := xh (GI.out x y dk wr S1.out HD.out (by omega) hyn)
   have HP2 := fun (e' : Array (α × Nat)) (he : e' = Sort.insertionSort (fun u v => decide (cf key u v < 0)) dk x y) => HP.out.step (b := y) (e' := e') HI.out.1 HI.out.2 (by have := HK.out; omega) (by have := HK.out; omega) (by rw [← HK.out]; exact he)
   have HPP := xh (HP2 _ rfl)
   have HDD := xh (yy520 (fun u v => decide (cf key u v < 0)) dk x y (by rw [HD.out]; exact hyn))
   clear HP2
   generalize Sort.insertionSort (fun u v => decide (cf key u v < 0)) dk x y = d2 at G1 HPP HDD
   have HXY := xh hxy
   clear hxy
   go_wp2_with fail
   refine G1.out.mono ?_
   rintro e w1 ⟨rfl, S2⟩
   have HS2 := xh S2
   clear S2 G1
   go_wp2
   go_roundg (n - y)
   case measure => have := HXY.out; omega
   case rel => exact ⟨k + 1, y, y + 20, d2, rfl, by first | rfl | simp, rfl, hyn, Nat.le_refl _, xh (by have := HK.out; have := HXY.out; omega), xh (HDD.out.trans HD.out), HS2, HPP⟩
  ·have hz1 : ¬ (y : Int) ≤ (n : Int) := by omega
   have G1 := xh (GI.out x n dk wr S1.out HD.out hxn (Nat.le_refl _))
   have HP2 := fun (e' : Array (α × Nat)) (he : e' = Sort.insertionSort (fun u v => decide (cf key u v < 0)) dk x n) => HP.out.step (b := n) (e' := e') HI.out.1 HI.out.2 (by have := HK.out; omega) (by have := HK.out; omega) (by rw [← HK.out]; exact he)
   have HPP := xh (HP2 _ rfl)
   have HDD := xh (yy520 (fun u v => decide (cf key u v < 0)) dk x n (by rw [HD.out]; exact Nat.le_refl _))
   clear HP2
   generalize Sort.insertionSort (fun u v => decide (cf key u v < 0)) dk x n = d2 at G1 HPP HDD
   have HB2 : Hid (∀ j, Blk key 20 j n d2) := HPP.out.done (by have := HK.out; omega)
   have HQ2 : Hid (PermIn 0 n d0 d2 ∧ d2.size = n) := ⟨HPP.out.1, HDD.out.trans HD.out⟩
   clear HPP HDD hxy
   go_wp2_with fail
   refine G1.out.mono ?_
   rintro e w1 ⟨rfl, S2⟩
   have HS2 := xh S2
   clear S2 G1
   obtain ⟨wq, hwq⟩ : ∃ x, x = w1 := ⟨_, rfl⟩
   subst hwq
   go_wp2
   go_loopg [6] n (fun kx s6 wr => ∃ (s : Nat) (dj : Array (α × Nat)), s6 = .int .i64 s ∧ 0 < s ∧ s < 4194304 ∧ n - s ≤ kx ∧ Hid (dj.size = n) ∧ Hid (SWK enc 6 wA blk off dj wr) ∧ Hid (PermIn 0 n d0 dj) ∧ Hid (∀ j, Blk key s j n dj))
   case atStart => exact ⟨20, d2, rfl, by omega, by omega, by omega, xh HQ2.out.2, HS2, xh HQ2.out.1, HB2⟩
   case round =>
    clear HS2 HB2 HQ2 hkx hxn hyn hz1 S1 HP HD HK
    obtain ⟨s, dj, rfl, hs0, hs1, hkx2, HD, S1, HP, HB⟩ := hrel
    by_cases hsn : s < n
    ·have hz2 : (s : Int) < (n : Int) := by omega
     obtain ⟨t, ht⟩ : ∃ t, 2 * s = t := ⟨_, rfl⟩
     have et : (2 : Int) * (s : Int) = (t : Int) := by omega
     have et2 : (s : Int) * (2 : Int) = (t : Int) := by omega
     have HT : Hid (2 * s = t ∧ t < 4194304) := xh ⟨ht, by omega⟩
     have ht1 : t < 4194304 := by omega
     clear ht
     obtain ⟨wq2, hwq2⟩ : ∃ x, x = wr := ⟨_, rfl⟩
     subst hwq2
     go_wp2
     go_loopg [7, 8] n (fun kx s7 s8 wr => ∃ (k x y : Nat) (dk : Array (α × Nat)), s7 = .int .i64 x ∧ s8 = .int .i64 y ∧ y = x + t ∧ x ≤ n ∧ n - x ≤ kx ∧ Hid (x = k * t) ∧ Hid (dk.size = n) ∧ Hid (SWK enc 6 wA blk off dk wr) ∧ Hid (PermIn 0 n d0 dk) ∧ Hid (Mix key s k n dk))
     case atStart => exact ⟨0, 0, t, dj, rfl, rfl, by omega, Nat.zero_le _, Nat.le_refl _, xh (by omega), HD, S1, HP, xh (yy591 HB.out)⟩
     case round =>
      clear HD S1 HP HB
      obtain ⟨k, x, y, dk, rfl, rfl, hxy, hxn, hkx, HK, HD, S1, HP, HM⟩ := hrel
      obtain ⟨m, hm⟩ : ∃ m, x + s = m := ⟨_, rfl⟩
      have em : (x : Int) + (s : Int) = (m : Int) := by omega
      have hnum : (2 * k) * s = x ∧ (2 * k + 1) * s = m ∧ m + s = y := by
       obtain ⟨m1, m2, m3⟩ := yy104 s k
       have h1 := HK.out
       have h2 := HT.out.1
       rw [← h2] at h1 hxy
       omega
      have HN : Hid ((2 * k) * s = x ∧ (2 * k + 1) * s = m ∧ m + s = y ∧ x < m ∧ m < y) := xh ⟨hnum.1, hnum.2.1, hnum.2.2, by omega, by omega⟩
      clear hnum hm
      by_cases hyn : y ≤ n
      ·have hz1 : (y : Int) ≤ (n : Int) := by omega
       have hmn : (2 * k + 1) * s < n := by have := HN.out; omega
       obtain ⟨p1, p2, p3⟩ := HM.out.pair hmn
       have hmin : min ((2 * k + 1) * s + s) n = y := by have := HN.out; omega
       rw [hmin] at p2 p3
       rw [HN.out.1, HN.out.2.1] at p1 p3
       rw [HN.out.2.1] at p2
       have G1 := xh (GM.out x m y dk wr S1.out HD.out HN.out.2.2.2.1 HN.out.2.2.2.2 hyn p1 p2 p3)
       have HST := xh (fun (e' : Array (α × Nat)) (hp : PermIn x y dk e') (hs : SortedIn (lx key) x y e') => HM.out.step (e' := e') (by rw [HD.out]; exact Nat.le_refl _) hmn (by rw [hmin, HN.out.1]; exact hp) (by rw [hmin, HN.out.1]; exact hs))
       have HXY := xh hxy
       clear p1 p2 p3 hmin hmn hxy
       go_wp2_with fail
       refine G1.out.mono ?_
       rintro e w1 ⟨rfl, d2, S2, P2, Q2⟩
       have HS2 := xh S2
       have HM2 := xh (HST.out d2 P2 Q2)
       have HD2 := xh (show d2.size = n from P2.1.trans HD.out)
       have HP2 : Hid (PermIn 0 n d0 d2) := xh (permIn_trans _ _ _ 0 n HP.out (permIn_mono dk d2 x y 0 n (Nat.zero_le _) hyn (by rw [HD.out]; exact Nat.le_refl _) P2))
       clear S2 P2 Q2 G1 HST
       go_wp2
       go_roundg (n - y)
       case measure => have := HXY.out; have := HN.out; omega
       case rel => exact ⟨k + 1, y, y + t, d2, rfl, by first | rfl | simp, rfl, hyn, Nat.le_refl _, xh (by rw [HXY.out, HK.out, Nat.add_mul, Nat.one_mul]), HD2, HS2, HP2, HM2⟩
      ·have hz1 : ¬ (y : Int) ≤ (n : Int) := by omega
       have HXY := xh hxy
       clear hxy
       by_cases hmn : m < n
       ·have hz3 : (m : Int) < (n : Int) := by omega
        have hmn2 : (2 * k + 1) * s < n := by have := HN.out; omega
        obtain ⟨p1, p2, p3⟩ := HM.out.pair hmn2
        have hmin : min ((2 * k + 1) * s + s) n = n := by have := HN.out; omega
        rw [hmin] at p2 p3
        rw [HN.out.1, HN.out.2.1] at p1 p3
        rw [HN.out.2.1] at p2
        have G1 := xh (GM.out x m n dk wr S1.out HD.out HN.out.2.2.2.1 hmn (Nat.le_refl _) p1 p2 p3)
        have HST := xh (fun (e' : Array (α × Nat)) (hp : PermIn x n dk e') (hs : SortedIn (lx key) x n e') => HM.out.step (e' := e') (by rw [HD.out]; exact Nat.le_refl _) hmn2 (by rw [hmin, HN.out.1]; exact hp) (by rw [hmin, HN.out.1]; exact hs))
        clear p1 p2 p3 hmin hmn2
        go_wp2_with fail
        refine G1.out.mono ?_
        rintro e w1 ⟨rfl, d2, S2, P2, Q2⟩
        have HS2 := xh S2
        have HM2 : Hid (∀ j, Blk key t j n d2) := xh (by
         have := (HST.out d2 P2 Q2).done (by
          obtain ⟨m1, m2, m3⟩ := yy104 s (k + 1)
          obtain ⟨q1, q2, q3⟩ := yy104 s k
          have := HN.out
          omega)
         rwa [HT.out.1] at this)
        have HD2 := xh (show d2.size = n from P2.1.trans HD.out)
        have HP2 : Hid (PermIn 0 n d0 d2) := xh (permIn_trans _ _ _ 0 n HP.out (permIn_mono dk d2 x n 0 n (Nat.zero_le _) (Nat.le_refl _) (by rw [HD.out]; exact Nat.le_refl _) P2))
        clear S2 P2 Q2 G1 HST
        go_wp2
        go_roundg (n - t)
        case measure => have := HT.out; omega
        case rel => exact ⟨t, d2, rfl, by have := HT.out; omega, HT.out.2, Nat.le_refl _, HD2, HS2, HP2, HM2⟩
       ·have hz3 : ¬ (m : Int) < (n : Int) := by omega
        have HM2 : Hid (∀ j, Blk key t j n dk) := xh (by
         have := HM.out.done (by have := HN.out; omega)
         rwa [HT.out.1] at this)
        go_wp2
        go_roundg (n - t)
        case measure => have := HT.out; omega
        case rel => exact ⟨t, dk, rfl, by have := HT.out; omega, HT.out.2, Nat.le_refl _, HD, S1, HP, HM2⟩
    ·have hz2 : ¬ (s : Int) < (n : Int) := by omega
     go_wp2
     (try simp only [Exit.inBlock, Exit.then])
     refine bodyPost_end (v := .tuple #[]) ?_ ?_ ?_
     case refine_1 => exact results_none rfl _ _ _
     case refine_2 => rfl
     exact ⟨rfl, dj, S1.out, HP.out, yy748 (HB.out 0) (by omega)⟩
end Go.Proofs.YtjpjdkdbgjipnaaDoor
