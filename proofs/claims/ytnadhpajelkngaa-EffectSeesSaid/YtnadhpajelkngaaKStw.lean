/- The stable sort of any number of elements (slices.stableCmpFunc): in order, equal ones as they stood. Conditions: a row of at most 2^20 elements, each with its number; a comparison by keys. (Merged of 2 texts.) -/
import Derived.Test.YtnadhpajelkngaaKStb
import Derived.Test.YtnadhpajelkngaaKStc
import Derived.Test.YtnadhpajelkngaaShelf
/- Two neighbouring sorted stretches of a row merged (slices.symMergeCmpFunc), equal ones keeping their order. Conditions: neither is empty, both lie within the row; each of the first one stands, where they are equal, ahead of each of the second one. -/
namespace Go.Proofs.Ytnadhpajelkngaa
open Go.RowKit Go.Lib Go.Sort
variable {P : Program} {α : Type} [Inhabited α] {enc : α → List Value} {k : Nat} {w0 : World} {blk off : Nat} {d0 : Array α}

theorem stbMerge_any (L : LaysS P k) (R : RowK enc k w0 blk off d0) {lt : α → α → Bool} {C : α → α → Prop} {cn : α → α → Int} (O : Ord lt C cn) (g : Nat) (cb : Array Value) (cap : Nat)
    (eg : ∀ args w, (callFunc g args).run P w = .ok (.enter g args) w) (hcmp : CmpLays P g cb enc k cn blk off d0.size w0) (hsz : d0.size < 1099511627776) (N : Nat) : MergeAt P enc k w0 blk off d0 lt C g cb cap N := by
  induction N using Nat.strongRecOn with
  | _ N ih =>
    intro a m b d w hN ham hmb hb hd S hl hr hC
    by_cases h1 : m = a + 1
    · exact stbMerge_one L R O g cb cap eg hcmp hsz a m b d w h1 ham hmb hb hd S hl hr hC
    by_cases h2 : b = m + 1
    · exact stbMerge_last L R O g cb cap eg hcmp hsz a m b d w h2 h1 ham hmb hb hd S hl hr hC
    · exact stbMerge_most L R O g cb cap eg hcmp hsz a m b d w (fun M hM => ih M (by omega)) h1 h2 ham hmb hb hd S hl hr hC
end Go.Proofs.Ytnadhpajelkngaa

/- The stable sort of any number of elements (slices.stableCmpFunc): in order, equal ones as they stood. Conditions: a row of at most 2^20 elements, each with its number; a comparison by keys. -/
namespace Go.Proofs.Ytnadhpajelkngaa
open Go.RowKit Go.Lib Go.Sort
variable {α : Type} [Inhabited α] {enc : α × Nat → List Value} {w0 : World} {blk off : Nat} {d0 : Array (α × Nat)}

omit [Inhabited α] in
theorem ord_lx (key : α → Int) : Ord (lx key) (fun x y => x.2 < y.2) (cf key) := ⟨lx_swo key, fun _ _ _ h => cf_lt key h, fun _ _ hn h => cf_ge key h hn⟩

set_option maxHeartbeats 8000000 in
set_option maxRecDepth 1000000 in
theorem stbWhole_any (key : α → Int) (R : RowK enc 6 w0 blk off d0) (g : Nat) (cb : Array Value) (cap n : Nat) (hn : d0.size = n) (hI : Idx n d0)
    (eg : ∀ args w, (callFunc g args).run Try.prog w = .ok (.enter g args) w) (hcmp : CmpLays Try.prog g cb enc 6 (cf key) blk off n w0) (hsz : n < 1048577) :
    Calls Try.prog 58 #[.slice (some ⟨blk, off, none⟩) n cap, .int .i64 n, .func (.func g) #[] cb] w0 fun e w' => e = .returned (.tuple #[]) ∧ ∃ d', SWK enc 6 w0 blk off d' w' ∧ PermIn 0 n d0 d' ∧ SortedIn (lx key) 0 n d' := by
  have e68 : ∀ args w, (callFunc 68 args).run Try.prog w = .ok (.enter 68 args) w := enters_of Try.func68 (by kernel_rfl) rfl
  have e69 : ∀ args w, (callFunc 69 args).run Try.prog w = .ok (.enter 69 args) w := enters_of Try.func69 (by kernel_rfl) rfl
  have GI := Lib.hid (fun (x y : Nat) (dk : Array (α × Nat)) (wr : World) (hS : SWK enc 6 w0 blk off dk wr) (hdk : dk.size = n) (h1 : x ≤ y) (h2 : y ≤ n) => by
    have hc : CmpLays Try.prog g cb enc 6 (cf key) blk off dk.size wr := fun m os dj hj u v => by
      obtain ⟨m2, os2, e⟩ := hS.on R.hblk m dj os (by omega)
      rw [e]
      exact hcmp m2 os2 dj (by omega) u v
    have := AnyQ.insertionSortCmpFunc Try.insActs 6 (fun w => Try.isAgg31 w) (fun w => Try.sizeOf31 w) enc R.hk R.h1 (cf key) g cb blk off cap x y dk wr eg hc (hS.holds R.hblk R.hH (by omega)) (hS.lt R.hblk) h1 (by omega) (by omega)
    rw [hdk] at this
    have h3 := this.mono (R' := fun e w' => e = Ending.returned (.tuple #[]) ∧ SWK enc 6 w0 blk off (Sort.insertionSort (fun u v => decide (cf key u v < 0)) dk x y) w') (by
      rintro e w' ⟨h1, m, os, rfl⟩
      exact ⟨h1, hS.on R.hblk m _ os (insSize (ltOf (cf key)) dk x y (by omega))⟩)
    exact h3)
  have GM := Lib.hid (fun (x m b : Nat) (dk : Array (α × Nat)) (wr : World) (hS : SWK enc 6 w0 blk off dk wr) (hdk : dk.size = n) (h1 : x < m) (h2 : m < b) (h3 : b ≤ n) (s1 : SortedIn (lx key) x m dk) (s2 : SortedIn (lx key) m b dk) (hx : ∀ p q, x ≤ p → p < m → m ≤ q → q < b → dk[p]!.2 < dk[q]!.2) => by
    have := stbMerge_any laysS R (ord_lx key) g cb cap eg (by rw [hn]; exact hcmp) (by omega) (b - x) x m b dk wr (Nat.le_refl _) h1 h2 (by omega) (by omega) hS s1 s2 hx
    unfold MergeOf at this
    rwa [hdk] at this)
  have S0 : Hid (SWK enc 6 w0 blk off d0 w0) := SWK.start R.hH
  have HI : Hid (Idx n d0 ∧ d0.size = n) := ⟨hI, hn⟩
  clear R hcmp hI hn
  obtain ⟨wA, hwA⟩ : ∃ x, x = w0 := ⟨_, rfl⟩
  rw [← hwA] at S0 GI GM ⊢
  clear hwA
  go_enter Try.func58, Try.ntmps58
  go_wp2
  go_loopg [7, 8] n (fun kx s7 s8 wr => ∃ (k x y : Nat) (dk : Array (α × Nat)), s7 = .int .i64 x ∧ s8 = .int .i64 y ∧ y = x + 20 ∧ x ≤ n ∧ n - x ≤ kx ∧ Hid (x = k * 20) ∧ Hid (dk.size = n) ∧ Hid (SWK enc 6 wA blk off dk wr) ∧ Hid (Pre key 20 k n d0 dk))
  case atStart => exact ⟨0, 0, 20, d0, rfl, rfl, rfl, Nat.zero_le _, Nat.le_refl _, rfl, HI.out.2, S0, pre_start 20 n d0⟩
  case round =>
    clear S0
    obtain ⟨k, x, y, dk, rfl, rfl, hxy, hxn, hkx, HK, HD, S1, HP⟩ := hrel
    by_cases hyn : y ≤ n
    · have hz1 : (y : Int) ≤ (n : Int) := by omega
      have G1 := Lib.hid (GI.out x y dk wr S1.out HD.out (by omega) hyn)
      have HP2 := fun (e' : Array (α × Nat)) (he : e' = Sort.insertionSort (fun u v => decide (cf key u v < 0)) dk x y) => HP.out.step (b := y) (e' := e') HI.out.1 HI.out.2 (by have := HK.out; omega) (by have := HK.out; omega) (by rw [← HK.out]; exact he)
      have HPP := Lib.hid (HP2 _ rfl)
      have HDD := Lib.hid (insSize (fun u v => decide (cf key u v < 0)) dk x y (by rw [HD.out]; exact hyn))
      clear HP2
      generalize Sort.insertionSort (fun u v => decide (cf key u v < 0)) dk x y = d2 at G1 HPP HDD
      have HXY := Lib.hid hxy
      clear hxy
      go_wp2_with fail
      refine G1.out.mono ?_
      rintro e w1 ⟨rfl, S2⟩
      have HS2 := Lib.hid S2
      clear S2 G1
      go_wp2
      go_roundg (n - y)
      case measure => have := HXY.out; omega
      case rel => exact ⟨k + 1, y, y + 20, d2, rfl, by first | rfl | simp, rfl, hyn, Nat.le_refl _, Lib.hid (by have := HK.out; have := HXY.out; omega), Lib.hid (HDD.out.trans HD.out), HS2, HPP⟩
    · have hz1 : ¬ (y : Int) ≤ (n : Int) := by omega
      have G1 := Lib.hid (GI.out x n dk wr S1.out HD.out hxn (Nat.le_refl _))
      have HP2 := fun (e' : Array (α × Nat)) (he : e' = Sort.insertionSort (fun u v => decide (cf key u v < 0)) dk x n) => HP.out.step (b := n) (e' := e') HI.out.1 HI.out.2 (by have := HK.out; omega) (by have := HK.out; omega) (by rw [← HK.out]; exact he)
      have HPP := Lib.hid (HP2 _ rfl)
      have HDD := Lib.hid (insSize (fun u v => decide (cf key u v < 0)) dk x n (by rw [HD.out]; exact Nat.le_refl _))
      clear HP2
      generalize Sort.insertionSort (fun u v => decide (cf key u v < 0)) dk x n = d2 at G1 HPP HDD
      have HB2 : Hid (∀ j, Blk key 20 j n d2) := HPP.out.done (by have := HK.out; omega)
      have HQ2 : Hid (PermIn 0 n d0 d2 ∧ d2.size = n) := ⟨HPP.out.1, HDD.out.trans HD.out⟩
      clear HPP HDD hxy
      go_wp2_with fail
      refine G1.out.mono ?_
      rintro e w1 ⟨rfl, S2⟩
      have HS2 := Lib.hid S2
      clear S2 G1
      obtain ⟨wq, hwq⟩ : ∃ x, x = w1 := ⟨_, rfl⟩
      subst hwq
      go_wp2
      go_loopg [6] n (fun kx s6 wr => ∃ (s : Nat) (dj : Array (α × Nat)), s6 = .int .i64 s ∧ 0 < s ∧ s < 4194304 ∧ n - s ≤ kx ∧ Hid (dj.size = n) ∧ Hid (SWK enc 6 wA blk off dj wr) ∧ Hid (PermIn 0 n d0 dj) ∧ Hid (∀ j, Blk key s j n dj))
      case atStart => exact ⟨20, d2, rfl, by omega, by omega, by omega, Lib.hid HQ2.out.2, HS2, Lib.hid HQ2.out.1, HB2⟩
      case round =>
        clear HS2 HB2 HQ2 hkx hxn hyn hz1 S1 HP HD HK
        obtain ⟨s, dj, rfl, hs0, hs1, hkx2, HD, S1, HP, HB⟩ := hrel
        by_cases hsn : s < n
        · have hz2 : (s : Int) < (n : Int) := by omega
          obtain ⟨t, ht⟩ : ∃ t, 2 * s = t := ⟨_, rfl⟩
          have et : (2 : Int) * (s : Int) = (t : Int) := by omega
          have et2 : (s : Int) * (2 : Int) = (t : Int) := by omega
          have HT : Hid (2 * s = t ∧ t < 4194304) := Lib.hid ⟨ht, by omega⟩
          have ht1 : t < 4194304 := by omega
          clear ht
          obtain ⟨wq2, hwq2⟩ : ∃ x, x = wr := ⟨_, rfl⟩
          subst hwq2
          go_wp2
          go_loopg [7, 8] n (fun kx s7 s8 wr => ∃ (k x y : Nat) (dk : Array (α × Nat)), s7 = .int .i64 x ∧ s8 = .int .i64 y ∧ y = x + t ∧ x ≤ n ∧ n - x ≤ kx ∧ Hid (x = k * t) ∧ Hid (dk.size = n) ∧ Hid (SWK enc 6 wA blk off dk wr) ∧ Hid (PermIn 0 n d0 dk) ∧ Hid (Mix key s k n dk))
          case atStart => exact ⟨0, 0, t, dj, rfl, rfl, by omega, Nat.zero_le _, Nat.le_refl _, Lib.hid (by omega), HD, S1, HP, Lib.hid (mix_start HB.out)⟩
          case round =>
            clear HD S1 HP HB
            obtain ⟨k, x, y, dk, rfl, rfl, hxy, hxn, hkx, HK, HD, S1, HP, HM⟩ := hrel
            obtain ⟨m, hm⟩ : ∃ m, x + s = m := ⟨_, rfl⟩
            have em : (x : Int) + (s : Int) = (m : Int) := by omega
            have hnum : (2 * k) * s = x ∧ (2 * k + 1) * s = m ∧ m + s = y := by
              obtain ⟨m1, m2, m3⟩ := two_mul_le s k
              have h1 := HK.out
              have h2 := HT.out.1
              rw [← h2] at h1 hxy
              omega
            have HN : Hid ((2 * k) * s = x ∧ (2 * k + 1) * s = m ∧ m + s = y ∧ x < m ∧ m < y) := Lib.hid ⟨hnum.1, hnum.2.1, hnum.2.2, by omega, by omega⟩
            clear hnum hm
            by_cases hyn : y ≤ n
            · have hz1 : (y : Int) ≤ (n : Int) := by omega
              have hmn : (2 * k + 1) * s < n := by have := HN.out; omega
              obtain ⟨p1, p2, p3⟩ := HM.out.pair hmn
              have hmin : min ((2 * k + 1) * s + s) n = y := by have := HN.out; omega
              rw [hmin] at p2 p3
              rw [HN.out.1, HN.out.2.1] at p1 p3
              rw [HN.out.2.1] at p2
              have G1 := Lib.hid (GM.out x m y dk wr S1.out HD.out HN.out.2.2.2.1 HN.out.2.2.2.2 hyn p1 p2 p3)
              have HST := Lib.hid (fun (e' : Array (α × Nat)) (hp : PermIn x y dk e') (hs : SortedIn (lx key) x y e') => HM.out.step (e' := e') (by rw [HD.out]; exact Nat.le_refl _) hmn (by rw [hmin, HN.out.1]; exact hp) (by rw [hmin, HN.out.1]; exact hs))
              have HXY := Lib.hid hxy
              clear p1 p2 p3 hmin hmn hxy
              go_wp2_with fail
              refine G1.out.mono ?_
              rintro e w1 ⟨rfl, d2, S2, P2, Q2⟩
              have HS2 := Lib.hid S2
              have HM2 := Lib.hid (HST.out d2 P2 Q2)
              have HD2 := Lib.hid (show d2.size = n from P2.1.trans HD.out)
              have HP2 : Hid (PermIn 0 n d0 d2) := Lib.hid (permIn_trans _ _ _ 0 n HP.out (permIn_mono dk d2 x y 0 n (Nat.zero_le _) hyn (by rw [HD.out]; exact Nat.le_refl _) P2))
              clear S2 P2 Q2 G1 HST
              go_wp2
              go_roundg (n - y)
              case measure => have := HXY.out; have := HN.out; omega
              case rel => exact ⟨k + 1, y, y + t, d2, rfl, by first | rfl | simp, rfl, hyn, Nat.le_refl _, Lib.hid (by rw [HXY.out, HK.out, Nat.add_mul, Nat.one_mul]), HD2, HS2, HP2, HM2⟩
            · have hz1 : ¬ (y : Int) ≤ (n : Int) := by omega
              have HXY := Lib.hid hxy
              clear hxy
              by_cases hmn : m < n
              · have hz3 : (m : Int) < (n : Int) := by omega
                have hmn2 : (2 * k + 1) * s < n := by have := HN.out; omega
                obtain ⟨p1, p2, p3⟩ := HM.out.pair hmn2
                have hmin : min ((2 * k + 1) * s + s) n = n := by have := HN.out; omega
                rw [hmin] at p2 p3
                rw [HN.out.1, HN.out.2.1] at p1 p3
                rw [HN.out.2.1] at p2
                have G1 := Lib.hid (GM.out x m n dk wr S1.out HD.out HN.out.2.2.2.1 hmn (Nat.le_refl _) p1 p2 p3)
                have HST := Lib.hid (fun (e' : Array (α × Nat)) (hp : PermIn x n dk e') (hs : SortedIn (lx key) x n e') => HM.out.step (e' := e') (by rw [HD.out]; exact Nat.le_refl _) hmn2 (by rw [hmin, HN.out.1]; exact hp) (by rw [hmin, HN.out.1]; exact hs))
                clear p1 p2 p3 hmin hmn2
                go_wp2_with fail
                refine G1.out.mono ?_
                rintro e w1 ⟨rfl, d2, S2, P2, Q2⟩
                have HS2 := Lib.hid S2
                have HM2 : Hid (∀ j, Blk key t j n d2) := Lib.hid (by
                  have := (HST.out d2 P2 Q2).done (by
                    obtain ⟨m1, m2, m3⟩ := two_mul_le s (k + 1)
                    obtain ⟨q1, q2, q3⟩ := two_mul_le s k
                    have := HN.out
                    omega)
                  rwa [HT.out.1] at this)
                have HD2 := Lib.hid (show d2.size = n from P2.1.trans HD.out)
                have HP2 : Hid (PermIn 0 n d0 d2) := Lib.hid (permIn_trans _ _ _ 0 n HP.out (permIn_mono dk d2 x n 0 n (Nat.zero_le _) (Nat.le_refl _) (by rw [HD.out]; exact Nat.le_refl _) P2))
                clear S2 P2 Q2 G1 HST
                go_wp2
                go_roundg (n - t)
                case measure => have := HT.out; omega
                case rel => exact ⟨t, d2, rfl, by have := HT.out; omega, HT.out.2, Nat.le_refl _, HD2, HS2, HP2, HM2⟩
              · have hz3 : ¬ (m : Int) < (n : Int) := by omega
                have HM2 : Hid (∀ j, Blk key t j n dk) := Lib.hid (by
                  have := HM.out.done (by have := HN.out; omega)
                  rwa [HT.out.1] at this)
                go_wp2
                go_roundg (n - t)
                case measure => have := HT.out; omega
                case rel => exact ⟨t, dk, rfl, by have := HT.out; omega, HT.out.2, Nat.le_refl _, HD, S1, HP, HM2⟩
        · have hz2 : ¬ (s : Int) < (n : Int) := by omega
          go_wp2
          (try simp only [Exit.inBlock, Exit.then])
          refine bodyPost_end (v := .tuple #[]) ?_ ?_ ?_
          case refine_1 => exact results_none rfl _ _ _
          case refine_2 => rfl
          exact ⟨rfl, dj, S1.out, HP.out, blk_all (HB.out 0) (by omega)⟩
end Go.Proofs.Ytnadhpajelkngaa
