/- The document's own check of normal parts. Condition: no slice is longer than memory, no text longer than 2^40 bytes. -/
import Derived.Test.YtjpjdkdbgjipnaaDoorV47
import Derived.Test.YtjpjdkdbgjipnaaDoorV9
import Derived.Test.YtjpjdkdbgjipnaaDoorV5
namespace Go.Proofs.YtjpjdkdbgjipnaaDoor
open Go.RowKit Go.Deep
set_option maxHeartbeats 4000000 in
set_option maxRecDepth 100000 in
theorem yy253 (A : Option Addr) (c : Nat) (l : List CompV) (hl : l.length ≤ maxLen) (hf : Fine1 l) (w : World) (hc : yy6 w A l) :
  Calls Tryd.prog 67 #[.slice A l.length c] w fun e w' => e = .returned (.bool (nrmB l)) ∧ Below w.heap.size w w' := by
 unfold maxLen at hl
 have HC := xh hc; clear hc
 have HF := xh hf; clear hf
 obtain ⟨T, HT⟩ : ∃ T, Hid (nrmB l = T) := ⟨_, xh rfl⟩
 rw [HT.out]
 go_enter Tryd.func67, Tryd.ntmps67
 go_wp2
 go_loopw [3] (fun i wr => ∃ k : Nat, k ≤ l.length ∧ i = .int .i64 k ∧ (∀ i c, i < k → l[i]? = some c → NormAt l i c) ∧ Below w.heap.size w wr) (fun i _ => l.length - (intOf i).toNat)
 case atStart => exact ⟨0, Nat.zero_le _, rfl, fun i c h => by omega, Below.refl _ _⟩
 case round =>
  obtain ⟨k, hk, rfl, hn, hbel⟩ := hrel
  have HN := xh hn; clear hn
  have HBEL := xh hbel; clear hbel
  by_cases hlt : k < l.length
  ·obtain ⟨b, off, rfl, _⟩ := HC.out.form (by omega)
   obtain ⟨x0, x1, x2⟩ := (HC.out.below HBEL.out).at_ hlt
   have HGET : Hid (l[k]? = some l[k]) := List.getElem?_eq_getElem hlt
   have HY := xh (HF.out l[k] (List.getElem_mem hlt))
   generalize l[k] = y at x0 x1 x2 HGET HY
   have HNO : Hid (¬ NormAt l k y → T = false) := fun h => by rw [← HT.out]; exact yy461 fun g => h (g k y HGET.out)
   have HYES : Hid (NormAt l k y → ∀ i c, i < k + 1 → l[i]? = some c → NormAt l i c) := fun h i c hi hc => by
    by_cases e : i = k
    ·subst e
     rw [HGET.out] at hc
     injection hc with hc
     subst hc
     exact h
    ·exact HN.out i c (by omega) hc
   obtain ⟨kd, n, tx⟩ := y
   simp only at x0 x1 x2
   have hnew : Below wr.heap.size wr (wr.alloc (Obj.cells #[Value.int .i64 kd, Value.int .i64 n, Value.string (bstr tx)] 51)) := (Below.refl _ _).alloc (Nat.le_refl _) _
   have HB1 : Hid (Below w.heap.size w (wr.alloc (Obj.cells #[Value.int .i64 kd, Value.int .i64 n, Value.string (bstr tx)] 51))) := HBEL.out.trans (hnew.mono HBEL.out.size)
   clear hnew
   have hsz := bstr_size tx
   have hnew : Below wr.heap.size wr (wr.alloc (Obj.cells #[Value.int .i64 kd, Value.int .i64 n, Value.string (bstr tx)] 51)) := (Below.refl _ _).alloc (Nat.le_refl _) _
   have HB1 : Hid (Below w.heap.size w (wr.alloc (Obj.cells #[Value.int .i64 kd, Value.int .i64 n, Value.string (bstr tx)] 51))) := HBEL.out.trans (hnew.mono HBEL.out.size)
   clear hnew
   have hsz := bstr_size tx
   by_cases h13 : kd = 1 ∨ kd = 3
   ·have g2 : (kd == 2) = false := xn (by omega)
    by_cases hn1 : 1 ≤ n
    ·have hn1' : ¬ n < 1 := by omega
     by_cases htx : tx = []
     ·subst htx
      have hte := yy174
      by_cases hkz : k = 0
      ·have hk0 : ¬ 0 < k := by omega
       have HOK : Hid (NormAt l k ⟨kd, n, []⟩) := ⟨.inl ⟨h13, hn1, rfl⟩, fun p h _ => absurd h hk0⟩
       clear hkz
       rcases h13 with rfl | rfl
       ·go_wp2_with fail
        go_region
        go_wp2
        go_roundw
        case rel => exact ⟨k + 1, by omega, by go_num, HYES.out HOK.out, HB1.out.drew⟩
        case measure => simp [intOf]; omega
       ·go_wp2_with fail
        go_region
        go_wp2
        go_roundw
        case rel => exact ⟨k + 1, by omega, by go_num, HYES.out HOK.out, HB1.out.drew⟩
        case measure => simp [intOf]; omega
      ·obtain ⟨j, HJ⟩ : ∃ j, Hid (k = j + 1) := ⟨k - 1, by show k = k - 1 + 1; omega⟩
       have hjl : j < l.length := by have := HJ.out; omega
       have hk1 : (k : Int) - 1 = (j : Int) := by have := HJ.out; omega
       have hkp : 0 < k := by omega
       have HP : Hid (l[k - 1]? = some l[j]) := by show _ = _; rw [HJ.out]; exact List.getElem?_eq_getElem hjl
       obtain ⟨p0, _, _⟩ := (HC.out.below HB1.out).at_ hjl
       generalize l[j] = p at p0 HP
       obtain ⟨pk, pn, ptx⟩ := p
       simp only at p0
       by_cases hpk : pk = kd
       ·have HFA : Hid (T = false) := HNO.out fun h => h.2 _ hkp HP.out hpk
        have gq : (pk == kd) = true := beq_iff_eq.2 hpk
        subst hpk
        rcases h13 with rfl | rfl
        ·go_wp2_with fail
         go_region
         go_wp2_with fail
         go_ret
         exact ⟨by rw [HFA.out]; rfl, HB1.out.drew⟩
        ·go_wp2_with fail
         go_region
         go_wp2_with fail
         go_ret
         exact ⟨by rw [HFA.out]; rfl, HB1.out.drew⟩
       ·have HOK : Hid (NormAt l k ⟨kd, n, []⟩) := ⟨.inl ⟨h13, hn1, rfl⟩, fun p h hp => by
         rw [HP.out] at hp
         injection hp with hp
         subst hp
         exact hpk⟩
        have gq : (pk == kd) = false := xn hpk
        clear hpk
        rcases h13 with rfl | rfl
        ·go_wp2_with fail
         go_region
         go_wp2
         go_roundw
         case rel => exact ⟨k + 1, by omega, by go_num, HYES.out HOK.out, HB1.out.drew⟩
         case measure => simp [intOf]; omega
        ·go_wp2_with fail
         go_region
         go_wp2
         go_roundw
         case rel => exact ⟨k + 1, by omega, by go_num, HYES.out HOK.out, HB1.out.drew⟩
         case measure => simp [intOf]; omega
     ·have HFA : Hid (T = false) := HNO.out fun h => by
       rcases h.1 with h | h
       ·exact htx h.2.2
       ·rcases h13 with e | e <;> (have := h.1; simp only at this; omega)
      have hte := yy192 htx
      clear htx
      rcases h13 with rfl | rfl
      ·go_wp2_with fail
       go_ret
       exact ⟨by rw [HFA.out]; rfl, HB1.out⟩
      ·go_wp2_with fail
       go_ret
       exact ⟨by rw [HFA.out]; rfl, HB1.out⟩
    ·have HFA : Hid (T = false) := HNO.out fun h => by
      rcases h.1 with h | h
      ·exact hn1 h.2.1
      ·rcases h13 with e | e <;> (have := h.1; simp only at this; omega)
     have hn1' : n < 1 := by omega
     clear hn1
     rcases h13 with rfl | rfl
     ·go_wp2_with fail
      go_ret
      exact ⟨by rw [HFA.out]; rfl, HB1.out⟩
     ·go_wp2_with fail
      go_ret
      exact ⟨by rw [HFA.out]; rfl, HB1.out⟩
   ·have g1 : (kd == 1) = false := xn (by omega)
    have g3 : (kd == 3) = false := xn (by omega)
    by_cases h2 : kd = 2
    ·subst h2
     clear g1 g3 h13
     by_cases hn0 : n = 0
     ·subst hn0
      by_cases htx : tx = []
      ·have HFA : Hid (T = false) := HNO.out fun h => by
        rcases h.1 with h | h
        ·rcases h.1 with e | e <;> (simp only at e; omega)
        ·exact h.2.2.1 htx
       subst htx
       have hte := yy174
       go_wp2_with fail
       go_ret
       exact ⟨by rw [HFA.out]; rfl, HB1.out⟩
      ·have hte := yy192 htx
       have GV := xh (yy193 tx HY.out.1.2.2.1 HY.out.2 (wr.alloc (Obj.cells #[Value.int .i64 2, Value.int .i64 0, Value.string (bstr tx)] 51)))
       by_cases hv : ∃ vs, V tx vs
       ·obtain ⟨vs, hvs⟩ := hv
        rw [yy182 hvs] at GV
        have HVS := xh hvs; clear hvs
        by_cases hkz : k = 0
        ·have hk0 : ¬ 0 < k := by omega
         have HOK : Hid (NormAt l k ⟨2, 0, tx⟩) := ⟨.inr ⟨rfl, rfl, htx, ⟨vs, HVS.out⟩, fun p h _ => absurd h hk0⟩, fun p h _ => absurd h hk0⟩
         clear htx hkz
         go_wp2_with fail
         refine GV.out.mono ?_
         rintro e w2 ⟨rfl, hb2⟩
         have HB2 : Hid (Below w.heap.size w w2) := HB1.out.trans (hb2.mono HB1.out.size)
         have hc0 : w2.cell? ⟨wr.heap.size, 0, none⟩ = some (.int .i64 2) := by
          refine (hb2.cell (p := ⟨wr.heap.size, 0, none⟩) (by simp)).trans ?_
          rw [cell_of_row _ _ _ _ _ _ (heap_alloc_new wr _)]
          rfl
         clear hb2
         go_wp2_with fail
         go_region
         go_wp2
         go_roundw
         case rel => exact ⟨k + 1, by omega, by go_num, HYES.out HOK.out, HB2.out.drew⟩
         case measure => simp [intOf]; omega
        ·obtain ⟨j, HJ⟩ : ∃ j, Hid (k = j + 1) := ⟨k - 1, by show k = k - 1 + 1; omega⟩
         have hjl : j < l.length := by have := HJ.out; omega
         have hk1 : (k : Int) - 1 = (j : Int) := by have := HJ.out; omega
         have hkp : 0 < k := by omega
         have HP : Hid (l[k - 1]? = some l[j]) := by show _ = _; rw [HJ.out]; exact List.getElem?_eq_getElem hjl
         go_wp2_with fail
         refine GV.out.mono ?_
         rintro e w2 ⟨rfl, hb2⟩
         have HB2 : Hid (Below w.heap.size w w2) := HB1.out.trans (hb2.mono HB1.out.size)
         have hc0 : w2.cell? ⟨wr.heap.size, 0, none⟩ = some (.int .i64 2) := by
          refine (hb2.cell (p := ⟨wr.heap.size, 0, none⟩) (by simp)).trans ?_
          rw [cell_of_row _ _ _ _ _ _ (heap_alloc_new wr _)]
          rfl
         clear hb2
         obtain ⟨p0, _, _⟩ := (HC.out.below HB2.out).at_ hjl
         generalize l[j] = p at p0 HP
         obtain ⟨pk, pn, ptx⟩ := p
         simp only at p0
         by_cases hp3 : pk = 3
         ·subst hp3
          have HFA : Hid (T = false) := HNO.out fun h => by
           rcases h.1 with h | h
           ·rcases h.1 with e | e <;> (simp only at e; omega)
           ·exact h.2.2.2.2 _ hkp HP.out rfl
          clear htx
          go_wp2_with fail
          go_ret
          exact ⟨by rw [HFA.out]; rfl, HB2.out⟩
         ·have gp3 : (pk == 3) = false := xn hp3
          by_cases hp2 : pk = 2
          ·subst hp2
           have HFA : Hid (T = false) := HNO.out fun h => h.2 _ hkp HP.out rfl
           clear hp3 gp3 htx
           go_wp2_with fail
           go_region
           go_wp2_with fail
           go_ret
           exact ⟨by rw [HFA.out]; rfl, HB2.out.drew⟩
          ·have gp2 : (pk == 2) = false := xn hp2
           have HOK : Hid (NormAt l k ⟨2, 0, tx⟩) := ⟨.inr ⟨rfl, rfl, htx, ⟨vs, HVS.out⟩, fun p h hp => by
            rw [HP.out] at hp
            injection hp with hp
            subst hp
            exact hp3⟩, fun p h hp => by
            rw [HP.out] at hp
            injection hp with hp
            subst hp
            exact hp2⟩
           clear hp3 hp2 htx
           go_wp2_with fail
           go_region
           go_wp2
           go_roundw
           case rel => exact ⟨k + 1, by omega, by go_num, HYES.out HOK.out, HB2.out.drew⟩
           case measure => simp [intOf]; omega
       ·have HFA : Hid (T = false) := HNO.out fun h => by
         rcases h.1 with h | h
         ·rcases h.1 with e | e <;> (simp only at e; omega)
         ·exact hv h.2.2.2.1
        rw [yy230 hv] at GV
        clear htx
        go_wp2_with fail
        refine GV.out.mono ?_
        rintro e w2 ⟨rfl, hb2⟩
        have HB2 : Hid (Below w.heap.size w w2) := HB1.out.trans (hb2.mono HB1.out.size)
        clear hb2
        go_wp2_with fail
        go_ret
        exact ⟨by rw [HFA.out]; rfl, HB2.out⟩
     ·have HFA : Hid (T = false) := HNO.out fun h => by
       rcases h.1 with h | h
       ·rcases h.1 with e | e <;> (simp only at e; omega)
       ·exact hn0 h.2.1
      have gn : (n == 0) = false := xn hn0
      have gn' : (n != 0) = true := bne_iff_ne.2 hn0
      clear hn0
      go_wp2_with fail
      go_ret
      exact ⟨by rw [HFA.out]; rfl, HB1.out⟩
    ·have HFA : Hid (T = false) := HNO.out fun h => by
      rcases h.1 with h | h
      ·exact h13 h.1
      ·exact h2 h.1
     have g2 : (kd == 2) = false := xn h2
     clear h2 h13
     go_wp2_with fail
     go_ret
     exact ⟨by rw [HFA.out]; rfl, HB1.out⟩
  ·have HE : Hid (T = true) := by
    show T = true
    rw [← HT.out]
    exact yy123 fun i c hc => HN.out i c (by have := (List.getElem?_eq_some_iff.1 hc).1; omega) hc
   go_wp2
   go_ret
   exact ⟨by rw [HE.out]; rfl, HBEL.out⟩
end Go.Proofs.YtjpjdkdbgjipnaaDoor
