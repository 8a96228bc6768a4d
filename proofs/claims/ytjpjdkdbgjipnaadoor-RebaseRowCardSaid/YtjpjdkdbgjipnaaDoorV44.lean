/- Rows of commits of the call's own: a commit more, beside rows of the call's own of other types; one commit cut out. Condition: no more than 2^40 commits. (Merged of 10 texts.) -/
import Derived.Test.YtjpjdkdbgjipnaaDoorV0
import Derived.Test.YtjpjdkdbgjipnaaDoorV45
import Derived.Deep.OwnRows
import Derived.Deep.AppendLies
import Derived.Test.YtjpjdkdbgjipnaaDoorV47
import Derived.Deep.DeepAppendWide
import Derived.Laws.OwnMore
namespace Go.Proofs.YtjpjdkdbgjipnaaDoor
open Go.RowKit Go.Deep
structure Only (g : Nat) (w w' : World) : Prop where
 os : w'.os = w.os
 tape : w'.tape = w.tape
 output : w'.output = w.output
 size : w.heap.size ≤ w'.heap.size
 block : ∀ k, k < w.heap.size → k ≠ g → w'.heap[k]? = w.heap[k]?
theorem Only.refl (g : Nat) (w : World) : Only g w w := ⟨rfl, rfl, rfl, Nat.le_refl _, fun _ _ _ => rfl⟩
theorem Only.trans {g : Nat} {a b c : World} (h : Only g a b) (k : Only g b c) : Only g a c :=
 ⟨k.os.trans h.os, k.tape.trans h.tape, k.output.trans h.output, Nat.le_trans h.size k.size, fun i hi hg => (k.block i (Nat.lt_of_lt_of_le hi h.size) hg).trans (h.block i hi hg)⟩
theorem Only.of_below {g : Nat} {w w' : World} (h : Below w.heap.size w w') : Only g w w' := ⟨h.os, h.tape, h.output, h.size, fun k hk _ => h.block k hk⟩
theorem Only.drew {g : Nat} {a w : World} (h : Only g a w) : Only g a w.drew := ⟨h.os, h.tape, h.output, h.size, h.block⟩
theorem Only.set {g : Nat} {a w : World} (h : Only g a w) (i : Nat) (v : Value) : Only g a (w.setCell ⟨g, i, none⟩ v) :=
 h.trans ⟨rfl, rfl, rfl, by simp [World.setCell], fun k _ hk => Below.heap_setCell _ _ _ _ hk⟩
theorem Only.below {g : Nat} {W w w' : World} (h : Only g w w') (hb : Below W.heap.size W w) (hg : W.heap.size ≤ g) : Below W.heap.size W w' :=
 hb.trans ⟨h.os, h.tape, h.output, h.size, fun k hk => h.block k (Nat.lt_of_lt_of_le hk hb.size) (by omega)⟩
theorem own_below {w w' : World} {base : Nat} {e : TypeId} {size : Nat} {v : Value} {n : Nat} {xs : List Value} (h : w.ownsRow base e size v n xs) (hb : Below w.heap.size w w') : w'.ownsRow base e size v n xs := by
 refine ⟨h.1, ?_⟩
 rcases h.2 with h2 | ⟨g', cap, cur, hv, hg, hh, h3, h4, h5⟩
 ·exact .inl h2
 ·have hlt : g' < w.heap.size := by
   rcases Nat.lt_or_ge g' w.heap.size with hlt | hge
   ·exact hlt
   ·rw [Array.getElem?_eq_none hge] at hh; cases hh
  exact .inr ⟨g', cap, cur, hv, hg, by rw [hb.block g' hlt]; exact hh, h3, h4, h5⟩
theorem yy314 {w w' : World} {base g : Nat} {e : TypeId} {size : Nat} {v : Value} {n : Nat} {xs : List Value} (h : w.ownsRow base e size v n xs) (ho : Only g w w') (hg : g < base) : w'.ownsRow base e size v n xs := by
 refine ⟨h.1, ?_⟩
 rcases h.2 with h2 | ⟨g', cap, cur, hv, hgb, hh, h3, h4, h5⟩
 ·exact .inl h2
 ·have hlt : g' < w.heap.size := by
   rcases Nat.lt_or_ge g' w.heap.size with hlt | hge
   ·exact hlt
   ·rw [Array.getElem?_eq_none hge] at hh; cases hh
  exact .inr ⟨g', cap, cur, hv, hgb, by rw [ho.block g' hlt (by omega)]; exact hh, h3, h4, h5⟩
theorem yy4.of_own {w : World} {base : Nat} {e : TypeId} {size : Nat} {A : Option Addr} {n c : Nat} {xs : List Value} (h : w.ownsRow base e size (.slice A n c) n xs) : yy4 w A xs := by
 by_cases h0 : n = 0
 ·subst h0
  exact .inl (List.eq_nil_of_length_eq_zero (by rw [h.1, Nat.zero_mul]))
 ·obtain ⟨g, cap, hv, _, hlt⟩ := h.form (by omega)
  injection hv with h1 h2 h3
  subst h1
  subst h3
  refine .inr ⟨g, 0, rfl, hlt, fun j x hx => ?_⟩
  have := h.cells (g := g) rfl j x hx
  rw [Nat.zero_add]
  rw [Go.WideShapes.add_plain, Nat.zero_add] at this
  exact this
theorem yy34 {w : World} {base base' : Nat} {e : TypeId} {size : Nat} {v : Value} {n : Nat} {xs : List Value} (h : w.ownsRow base e size v n xs) (hb : base' ≤ base) : w.ownsRow base' e size v n xs := by
 refine ⟨h.1, ?_⟩
 rcases h.2 with h2 | ⟨g', cap, cur, hv, hgb, hh, h3, h4, h5⟩
 ·exact .inl h2
 ·exact .inr ⟨g', cap, cur, hv, by omega, hh, h3, h4, h5⟩
theorem yy134 {w w' : World} {base base2 : Nat} {e e2 : TypeId} {size size2 : Nat} {v v2 : Value} {n n2 : Nat} {xs xs2 : List Value} (h : w.ownsRow base e size v n xs) (h2 : w.ownsRow base2 e2 size2 v2 n2 xs2) (he : e ≠ e2) (hg : w.grownBy w' v2.ownBlock) : w'.ownsRow base e size v n xs := by
 refine ⟨h.1, ?_⟩
 rcases h.2 with h0 | ⟨g', cap, cur, hv, hgb, hh, h3, h4, h5⟩
 ·exact .inl h0
 ·have hlt : g' < w.heap.size := by
   rcases Nat.lt_or_ge g' w.heap.size with hlt | hge
   ·exact hlt
   ·rw [Array.getElem?_eq_none hge] at hh; cases hh
  refine .inr ⟨g', cap, cur, hv, hgb, ?_, h3, h4, h5⟩
  rw [hg.block g' hlt ?_]
  ·exact hh
  ·intro e0
   rcases h2.2 with ⟨rfl, _⟩ | ⟨g2, cap2, cur2, rfl, _, hh2, _⟩
   ·simp [Value.ownBlock] at e0
   ·simp [Value.ownBlock] at e0
    subst e0
    rw [hh] at hh2
    injection hh2 with hh2
    injection hh2 with _ hh2
    exact he hh2
theorem yy721 {w : World} {base : Nat} {e : TypeId} {size : Nat} {v : Value} {n : Nat} {xs : List Value} (h : w.ownsRow base e size v n xs) : n ≤ maxLen := by
 rcases h.2 with ⟨_, h0⟩ | ⟨_, _, _, _, _, _, h1, h2, _⟩
 ·rw [h0]; exact Nat.zero_le _
 ·exact Nat.le_trans h1 h2
def CompsC (w : World) (A : Option Addr) (c : Nat) (l : List CompV) : Prop := yy6 w A l ∧ l.length ≤ c
theorem CompsC.below {w w' : World} {A : Option Addr} {c : Nat} {l : List CompV} (h : CompsC w A c l) (hb : Below w.heap.size w w') : CompsC w' A c l := ⟨h.1.below hb, h.2⟩
theorem CompsC.of_own {w : World} {base : Nat} {A : Option Addr} {c : Nat} {l : List CompV} (h : w.ownsRow base 51 3 (.slice A l.length c) l.length (l.flatMap yy2)) : CompsC w A c l := by
 refine ⟨yy4.of_own h, ?_⟩
 rcases h.2 with ⟨h1, h2⟩ | ⟨g, cap, cur, h1, _, _, h2, _⟩
 ·rw [h2]; exact Nat.zero_le _
 ·injection h1 with _ _ h1
  rw [h1]; exact h2
theorem yy87 {s t : List Nat} (hs : ∀ x ∈ s, x < 256) (ht : ∀ x ∈ t, x < 256) : ((bstr s).toList == (bstr t).toList) = decide (s = t) := by
 by_cases h : s = t
 ·subst h
  rw [decide_eq_true rfl]
  exact beq_self_eq_true _
 ·rw [decide_eq_false h]
  exact bstr_neq fun e => h (bstr_inj _ _ hs ht e)
set_option maxHeartbeats 4000000 in
set_option maxRecDepth 100000 in
theorem yy416 (s : List Nat) (hb : ∀ x ∈ s, x < 256) (hl : s.length ≤ maxLen) (w : World) :
  Calls Tryd.prog 27 #[.string (bstr s)] w fun e w' => e = .returned (.bool (rName s)) ∧ w = w' := by
 have hsz := bstr_size s
 unfold maxLen at hl
 have HB := xh hb
 obtain ⟨T, HT⟩ : ∃ T, Hid (rName s = T) := ⟨_, xh rfl⟩
 have HNO : Hid (¬ IsName s → T = false) := fun h => by rw [← HT.out]; exact yy484 h
 have HYES : Hid (IsName s → T = true) := fun h => by rw [← HT.out]; exact yy377 h
 rw [HT.out]
 clear HT
 by_cases h0 : s.length = 0
 ·have HF : Hid (T = false) := HNO.out fun h => by rw [yy37] at h; omega
  rw [h0] at hsz
  clear hb
  go_enter Tryd.func27, Tryd.ntmps27
  go_wp2
  go_ret
  exact ⟨by rw [HF.out]; rfl, rfl⟩
 by_cases h20 : 20 < s.length
 ·have HF : Hid (T = false) := HNO.out fun h => by rw [yy37] at h; omega
  clear hb
  go_enter Tryd.func27, Tryd.ntmps27
  go_wp2
  go_ret
  exact ⟨by rw [HF.out]; rfl, rfl⟩
 have e1 := yy87 hb (t := [46]) (by simp)
 have e2 := yy87 hb (t := [46, 46]) (by simp)
 rw [show (bstr [46]).toList = [46] by show ByteArray.toList { data := #[46] } = [46]; first | (decide +kernel) | simp | simp [go_sem]] at e1
 rw [show (bstr [46, 46]).toList = [46, 46] by show ByteArray.toList { data := #[46, 46] } = [46, 46]; first | (decide +kernel) | simp | simp [go_sem]] at e2
 have g0 : ¬ (s.length : Int) < 1 := by omega
 have g20 : ¬ (20 : Int) < (s.length : Int) := by omega
 by_cases d1 : s = [46]
 ·have HF : Hid (T = false) := HNO.out fun h => by rw [yy37] at h; exact h.2.2.1 d1
  rw [decide_eq_true d1] at e1
  clear hb e2 d1
  go_enter Tryd.func27, Tryd.ntmps27
  go_wp2
  go_ret
  exact ⟨by rw [HF.out]; rfl, rfl⟩
 rw [decide_eq_false d1] at e1
 by_cases d2 : s = [46, 46]
 ·have HF : Hid (T = false) := HNO.out fun h => by rw [yy37] at h; exact h.2.2.2.1 d2
  rw [decide_eq_true d2] at e2
  clear hb d1 d2
  go_enter Tryd.func27, Tryd.ntmps27
  go_wp2
  go_ret
  exact ⟨by rw [HF.out]; rfl, rfl⟩
 rw [decide_eq_false d2] at e2
 have HD : Hid (s ≠ [46] ∧ s ≠ [46, 46]) := ⟨d1, d2⟩
 have h20' : s.length ≤ 20 := by omega
 have h1' : 1 ≤ s.length := by omega
 clear hb d1 d2 h20 h0
 go_enter Tryd.func27, Tryd.ntmps27
 go_wp2
 go_loopw [2, 3] (fun r i wr => ∃ k : Nat, k ≤ s.length ∧ r = .bool false ∧ i = .int .i64 (k : Int) ∧ wr = w ∧ Hid (∀ (j x : Nat), j < k → s[j]? = some x → okByte x)) (fun _ i _ => s.length - (intOf i).toNat)
 case atStart => exact ⟨0, Nat.zero_le _, rfl, rfl, rfl, xh (fun j x h => by omega)⟩
 case round =>
  obtain ⟨k, hk, rfl, rfl, rfl, HOK⟩ := hrel
  by_cases hlt : k < s.length
  ·have hdr := List.drop_eq_getElem_cons hlt
   have hby := fun w => byte_at HB.out hdr w
   clear hdr
   have hx : s[k]? = some s[k] := List.getElem?_eq_getElem hlt
   have hc256 := HB.out s[k] (List.getElem_mem hlt)
   generalize s[k] = c at hby hx hc256
   have HX := xh hx
   clear hx
   by_cases hok : okByte c
   ·have HOK2 : Hid (∀ (j x : Nat), j < k + 1 → s[j]? = some x → okByte x) := by
     intro j x hj hjx
     rcases Nat.lt_or_ge j k with g | g
     ·exact HOK.out j x g hjx
     ·obtain rfl : j = k := by omega
      rw [HX.out] at hjx
      obtain rfl := Option.some.inj hjx
      exact hok
    rw [yy96] at hok
    rcases hok with ⟨q1, q2⟩ | ⟨q1, q2⟩ | rfl | rfl | rfl
    ·have r1 : ¬ c < 97 := by omega
     have r2 : ¬ 122 < c := by omega
     go_wp2
     go_roundw
     case rel => exact ⟨k + 1, by omega, rfl, by go_num, trivial, HOK2⟩
     case measure => simp [intOf]; omega
    ·have r1 : c < 97 := by omega
     have r2 : ¬ c < 48 := by omega
     have r3 : ¬ 57 < c := by omega
     go_wp2
     go_roundw
     case rel => exact ⟨k + 1, by omega, rfl, by go_num, trivial, HOK2⟩
     case measure => simp [intOf]; omega
    ·go_wp2
     go_roundw
     case rel => exact ⟨k + 1, by omega, rfl, by go_num, trivial, HOK2⟩
     case measure => simp [intOf]; omega
    ·go_wp2
     go_roundw
     case rel => exact ⟨k + 1, by omega, rfl, by go_num, trivial, HOK2⟩
     case measure => simp [intOf]; omega
    ·go_wp2
     go_roundw
     case rel => exact ⟨k + 1, by omega, rfl, by go_num, trivial, HOK2⟩
     case measure => simp [intOf]; omega
   ·have HF : Hid (T = false) := HNO.out fun h => by
     rw [yy37] at h
     exact hok (h.2.2.2.2 c (List.mem_of_getElem? HX.out))
    rw [yy96] at hok
    have n1 : ((c : Int) != 46) = true := by simp; omega
    have n2 : ((c : Int) != 45) = true := by simp; omega
    have n3 : ((c : Int) != 95) = true := by simp; omega
    rcases (show (c < 97 ∧ c < 48) ∨ (c < 97 ∧ 57 < c ∧ ¬ c < 48) ∨ (¬ c < 97 ∧ 122 < c ∧ ¬ c < 48 ∧ 57 < c) by omega) with ⟨r1, r2⟩ | ⟨r1, r2, r3⟩ | ⟨r1, r2, r3, r4⟩
    ·clear hok
     go_wp2
     go_ret
     exact ⟨by rw [HF.out]; rfl, rfl⟩
    ·clear hok
     go_wp2
     go_ret
     exact ⟨by rw [HF.out]; rfl, rfl⟩
    ·clear hok
     go_wp2
     go_ret
     exact ⟨by rw [HF.out]; rfl, rfl⟩
  ·have HT : Hid (T = true) := HYES.out (yy37.2 ⟨h1', h20', HD.out.1, HD.out.2, fun x hx => by
    obtain ⟨j, hj⟩ := List.getElem?_of_mem hx
    have := (List.getElem?_eq_some_iff.1 hj).1
    exact HOK.out j x (by omega) hj⟩)
   go_wp2
   go_ret
   exact ⟨by rw [HT.out]; rfl, rfl⟩
def yy730 (A : Option Addr) (c : Nat) : Option Addr := if c = 0 then A else A.map (·.add (0 * 1))
def numLow (A : Option Addr) (k c : Nat) : Option Addr := if c = k then A else A.map (·.add (k * 1))
attribute [irreducible] yy730 numLow
end Go.Proofs.YtjpjdkdbgjipnaaDoor
namespace Go.Proofs.YtjpjdkdbgjipnaaDoor
open Go.ChangeShapes Go.WideShapes Go.ChangeAt Go.RowKit Go.Deep
abbrev EditR := Option Addr × Nat × List CompV
def RowsC (w : World) (A : Option Addr) (L : List EditR) : Prop :=
 L = [] ∨ ∃ b off, A = some ⟨b, off, none⟩ ∧ b < w.heap.size ∧ ∀ (j : Nat) (x : EditR), L[j]? = some x → w.cell? ⟨b, off + j, none⟩ = some (.slice x.1 x.2.2.length x.2.1) ∧ CompsC w x.1 x.2.1 x.2.2
theorem RowsC.below {w w' : World} {A : Option Addr} {L : List EditR} (h : RowsC w A L) (hb : Below w.heap.size w w') : RowsC w' A L := by
 rcases h with h | ⟨b, off, hA, hlt, hc⟩
 ·exact .inl h
 ·exact .inr ⟨b, off, hA, Nat.lt_of_lt_of_le hlt hb.size, fun j x hj => ⟨(hb.cell (p := ⟨b, off + j, none⟩) hlt).trans (hc j x hj).1, (hc j x hj).2.below hb⟩⟩
theorem RowsC.cell {w : World} {b off : Nat} {L : List EditR} (h : RowsC w (some ⟨b, off, none⟩) L) {j : Nat} (hj : j < L.length) :
  w.cell? ⟨b, off + j, none⟩ = some (.slice L[j].1 L[j].2.2.length L[j].2.1) ∧ CompsC w L[j].1 L[j].2.1 L[j].2.2 := by
 rcases h with rfl | ⟨b', off', e, _, hc⟩
 ·simp at hj
 ·injection e with e
  injection e with e1 e2 e3
  subst e1 e2
  exact hc j _ (List.getElem?_eq_getElem hj)
theorem RowsC.form {w : World} {A : Option Addr} {L : List EditR} (h : RowsC w A L) (h0 : 0 < L.length) : ∃ b off, A = some ⟨b, off, none⟩ ∧ b < w.heap.size := by
 rcases h with rfl | ⟨b, off, e, hlt, _⟩
 ·simp at h0
 ·exact ⟨b, off, e, hlt⟩
def FineC (L : List EditR) : Prop := ∀ x ∈ L, (∀ y ∈ x.2.2, y.Good) ∧ x.2.2.length ≤ x.2.1 ∧ x.2.1 ≤ maxLen
section
variable {H : Type} {enc : TypeId × Value → H} {w : World}
set_option maxRecDepth 100000 in
theorem yy170 {fuel : Nat} {cs : List Value} {x : DataW H × List MemPlace} (h : DataW.trod enc Tryd.prog w 0 (fun _ => true) true fuel 58 cs = some x) (hlt : ∀ p ∈ x.2, p.block < w.heap.size) :
  ∃ A L c, cs = [.slice A (List.length L) c] ∧ RowsC w A L ∧ FineC L ∧ L.length ≤ c ∧ c ≤ maxLen := by
 have ce : Tryd.prog.cellsOf 40 = 1 := by kernel_rfl
 rcases open_slice Tryd.underlying58 h with ⟨rfl, rfl⟩ | ⟨a, len, cap, m, n, D, Pl, rfl, _, hl, hm, hmm, rfl, hx⟩
 ·exact ⟨none, [], 0, rfl, .inl rfl, fun _ h => (by cases h), Nat.le_refl _, Nat.zero_le _⟩
 ·simp only [if_true] at hmm
  subst hmm
  have each : ∀ i, i < len → ∃ y : EditR, ((∀ z ∈ y.2.2, z.Good) ∧ y.2.2.length ≤ y.2.1 ∧ y.2.1 ≤ maxLen) ∧ w.cell? (a.add i) = some (.slice y.1 y.2.2.length y.2.1) ∧ yy6 w y.1 y.2.2 := by
   intro i hi
   obtain ⟨cs', h1, h2⟩ := hx i (by omega)
   rw [ce] at h1
   obtain ⟨_, hlen, hcell⟩ := World.cells?_some h1
   obtain ⟨A, l, c, rfl, hA, hg, hlc, hcm⟩ := yy89 h2 (fun p hp => hlt p (List.mem_append_right _ (List.mem_flatMap.2 ⟨i, List.mem_range.2 (by omega), hp⟩)))
   refine ⟨(A, c, l), ⟨hg, hlc, hcm⟩, ?_, hA⟩
   have := hcell 0 (by omega)
   rw [Nat.mul_one, add_add, Nat.add_zero] at this
   exact this
  obtain ⟨f, hf⟩ := choose_lt each
  refine ⟨some a, (List.range len).map f, m, by simp, ?_, ?_, by simpa using hl, hm⟩
  ·by_cases h0 : len = 0
   ·subst h0
    exact .inl rfl
   ·obtain ⟨b, off, q⟩ := a
    have hq : q = none := by simpa [Addr.add] using World.cell?_spot (hf 0 (by omega)).2.1
    subst hq
    have hcell : ∀ r, r < len → w.cell? ⟨b, off + r, none⟩ = some (.slice (f r).1 (f r).2.2.length (f r).2.1) := fun r hrl => by rw [← Go.WideShapes.add_plain]; exact (hf r hrl).2.1
    refine .inr ⟨b, off, rfl, World.block_lt_of_cell? w ⟨b, off + 0, none⟩ (hcell 0 (by omega)), fun j x hj => ?_⟩
    rw [List.getElem?_map, Option.map_eq_some_iff] at hj
    obtain ⟨r, hr1, rfl⟩ := hj
    obtain ⟨hjl, e⟩ := List.getElem?_eq_some_iff.1 hr1
    rw [List.getElem_range] at e
    subst e
    rw [List.length_range] at hjl
    exact ⟨hcell j hjl, (hf j hjl).2.2, (hf j hjl).1.2.1⟩
  ·intro x hx
   obtain ⟨r, hr1, rfl⟩ := List.mem_map.1 hx
   exact (hf r (List.mem_range.1 hr1)).1
set_option maxRecDepth 100000 in
theorem yy427 {base : Nat} {v : Value} {d : DataW H} {p : List MemPlace} (hv : Value.okWide Tryd.prog w .any base 58 v) (h : DataW.Trod enc Tryd.prog w 0 (fun _ => true) true 58 v d p) (hlt : ∀ x ∈ p, x.block < w.heap.size) :
  ∃ A L c, v = .slice A (List.length L) c ∧ RowsC w A L ∧ FineC L ∧ L.length ≤ c ∧ c ≤ maxLen := by
 obtain ⟨a0, len, cap, rfl⟩ := okWide_slice Tryd.underlying58 hv
 obtain ⟨fuel, hf⟩ := h
 obtain ⟨A, l, c, e, h1⟩ := yy170 hf hlt
 simp only [Value.cells, List.cons.injEq, and_true] at e
 exact ⟨A, l, c, e, h1⟩
end
end Go.Proofs.YtjpjdkdbgjipnaaDoor
namespace Go.Proofs.YtjpjdkdbgjipnaaDoor
open Go.RowKit Go.Deep
def OneRow (w : World) (A : Option Addr) (l : List OneV) : Prop := yy4 w A (l.flatMap yy8)
theorem yy698 : (Tryd.prog.info? 48).map (fun i => (i.zero, i.size, i.bytes)) = some (some (.agg #[.int .i64 0, .slice none 0 0, .bool false, .bool false, .bool false, .bool false, .int .i64 0, .string { data := #[] }]), 8, 64) := by kernel_rfl
def OwnE (w : World) (B : Nat) (A : Option Addr) (c : Nat) (l : List OneV) : Prop := w.ownsRow B 48 8 (.slice A l.length c) l.length (l.flatMap yy8)
theorem yy699 (l : List OneV) : ∀ u ∈ l.flatMap yy8, u.oneCell' = true := by
 intro u hu
 obtain ⟨y, _, hy⟩ := List.mem_flatMap.1 hu
 simp [yy8] at hy
 rcases hy with rfl | rfl | rfl | rfl | rfl | rfl | rfl | rfl <;> rfl
theorem OwnE.at_ {w : World} {B c : Nat} {A : Option Addr} {l : List OneV} (h : OwnE w B A c l) : OneRow w A l := yy4.of_own h
theorem OwnE.cap {w : World} {B c : Nat} {A : Option Addr} {l : List OneV} (h : OwnE w B A c l) : l.length ≤ c := by
 rcases h.2 with ⟨e, h0⟩ | ⟨g, cap, cur, e, _, _, hn, _⟩
 ·omega
 ·injection e with _ _ e
  omega
theorem OwnE.nil (w : World) (B : Nat) : OwnE w B none 0 [] := World.ownsRow_nil _ _ _ _
theorem OwnE.below {w w' : World} {B c : Nat} {A : Option Addr} {l : List OneV} (h : OwnE w B A c l) (hb : Below w.heap.size w w') : OwnE w' B A c l := own_below h hb
theorem yy207 (x : World) (n : OneV) (g : Nat) (hg : g = x.heap.size) : OneRow (x.alloc (.cells (yy8 n).toArray 48)) (some ⟨g, 0, none⟩) [n] := by
 subst hg
 refine .inr ⟨_, 0, rfl, by simp, fun j v hj => ?_⟩
 rw [cell_of_row _ _ _ _ _ _ (heap_alloc_new x _)]
 simpa using hj
end Go.Proofs.YtjpjdkdbgjipnaaDoor
namespace Go.Proofs.YtjpjdkdbgjipnaaDoor
open Go.ChangeShapes Go.WideShapes Go.ChangeAt Go.RowKit Go.Deep
structure CommitV where
 rev : Int
 client : Int
 seq : Int
 actsA : Option Addr
 actsC : Nat
 acts : List ActV
instance : Inhabited CommitV := ⟨⟨0, 0, 0, none, 0, []⟩⟩
def yy17 (c : CommitV) : List Value := [.int .i64 c.rev, .int .i64 c.client, .int .i64 c.seq, .slice c.actsA c.acts.length c.actsC]
theorem yy33 (c : CommitV) : (yy17 c).length = 4 := rfl
def yy63 (w : World) (A : Option Addr) (l : List CommitV) : Prop := yy4 w A (l.flatMap yy17) ∧ ∀ y ∈ l, ActsAt w y.actsA y.acts
theorem yy63.below {w w' : World} {A : Option Addr} {l : List CommitV} (h : yy63 w A l) (hb : Below w.heap.size w w') : yy63 w' A l := ⟨yy4.below h.1 hb, fun y hy => (h.2 y hy).below hb⟩
theorem yy63.form {w : World} {A : Option Addr} {l : List CommitV} (h : yy63 w A l) (h0 : 0 < l.length) : ∃ b off, A = some ⟨b, off, none⟩ ∧ b < w.heap.size :=
 yy4.form h.1 (by intro e; have := congrArg List.length e; rw [yy27 yy17 4 yy33] at this; simp at this; omega)
theorem yy63.at_ {w : World} {b off : Nat} {l : List CommitV} (h : yy63 w (some ⟨b, off, none⟩) l) {i : Nat} (hi : i < l.length) :
  w.cell? ⟨b, off + i * 4, none⟩ = some (.int .i64 l[i].rev) ∧ w.cell? ⟨b, off + i * 4 + 1, none⟩ = some (.int .i64 l[i].client) ∧ w.cell? ⟨b, off + i * 4 + 2, none⟩ = some (.int .i64 l[i].seq) ∧
   w.cell? ⟨b, off + i * 4 + 3, none⟩ = some (.slice l[i].actsA l[i].acts.length l[i].actsC) := by
 refine ⟨?_, ?_, ?_, ?_⟩
 ·exact yy4.cell h.1 (j := i * 4 + 0) (by rw [flat_get yy17 4 yy33 l i hi 0 (by omega)]; rfl)
 ·rw [Nat.add_assoc]; exact yy4.cell h.1 (by rw [flat_get yy17 4 yy33 l i hi 1 (by omega)]; rfl)
 ·rw [Nat.add_assoc]; exact yy4.cell h.1 (by rw [flat_get yy17 4 yy33 l i hi 2 (by omega)]; rfl)
 ·rw [Nat.add_assoc]; exact yy4.cell h.1 (by rw [flat_get yy17 4 yy33 l i hi 3 (by omega)]; rfl)
section
variable {H : Type} {enc : TypeId × Value → H} {w : World}
end
end Go.Proofs.YtjpjdkdbgjipnaaDoor
namespace Go.Proofs.YtjpjdkdbgjipnaaDoor
open Go.RowKit Go.Deep
def ComRow (w : World) (A : Option Addr) (l : List CommitV) : Prop := yy4 w A (l.flatMap yy17)
theorem yy759 : (Tryd.prog.info? 61).map (fun i => (i.zero, i.size, i.bytes)) = some (some (.agg #[.int .i64 0, .int .i64 0, .int .i64 0, .slice none 0 0]), 4, 48) := by kernel_rfl
def OwnC (w : World) (B : Nat) (A : Option Addr) (c : Nat) (l : List CommitV) : Prop := w.ownsRow B 61 4 (.slice A l.length c) l.length (l.flatMap yy17)
theorem yy760 (l : List CommitV) : ∀ u ∈ l.flatMap yy17, u.oneCell' = true := by
 intro u hu
 obtain ⟨y, _, hy⟩ := List.mem_flatMap.1 hu
 simp [yy17] at hy
 rcases hy with rfl | rfl | rfl | rfl <;> rfl
theorem OwnC.at_ {w : World} {B c : Nat} {A : Option Addr} {l : List CommitV} (h : OwnC w B A c l) : ComRow w A l := yy4.of_own h
theorem OwnC.nil (w : World) (B : Nat) : OwnC w B none 0 [] := World.ownsRow_nil _ _ _ _
theorem OwnC.cap {w : World} {B c : Nat} {A : Option Addr} {l : List CommitV} (h : OwnC w B A c l) : l.length ≤ c := by
 rcases h.2 with ⟨e, h0⟩ | ⟨g, cap, cur, e, _, _, hn, _⟩
 ·omega
 ·injection e with _ _ e
  omega
theorem OwnC.below {w w' : World} {B c : Nat} {A : Option Addr} {l : List CommitV} (h : OwnC w B A c l) (hb : Below w.heap.size w w') : OwnC w' B A c l := own_below h hb
set_option maxRecDepth 100000 in
theorem yy607 {w : World} {B c0 : Nat} {A0 : Option Addr} {out : List CommitV} (hown : OwnC w B A0 c0 out) (hB : B ≤ w.heap.size) {ad : Addr} {m : List CommitV} (c : Nat) (hA : ComRow w (some ad) m) (hlen : out.length + m.length ≤ 1099511627776) (ty : TypeId) :
  ∃ A' c' w', (Builtin.append_ #[59, 59] ty #[.slice A0 out.length c0, .slice (some ad) m.length c]).run Tryd.prog w = .ok (.slice A' (out ++ m).length c') w' ∧ OwnC w' B A' c' (out ++ m) ∧ Below B w w' ∧ ∀ base e size v n xs, e ≠ 61 → w.ownsRow base e size v n xs → w'.ownsRow base e size v n xs := by
 obtain ⟨i0, hi0, hz0, hz1, hz2⟩ := info_parts yy759
 obtain ⟨v', w', hr, h2, h3, _⟩ := run_append_own_wide (P := Tryd.prog) w B 59 ty 61 i0 (.agg #[.int .i64 0, .int .i64 0, .int .i64 0, .slice none 0 0]) 4 48 Tryd.underlying59 hi0 hz0 hz1 hz2 rfl (by omega)
  _ out.length (out.flatMap yy17) hown ad m.length c (m.flatMap yy17) (yy27 yy17 4 yy33 m) (fun j u hu => by
   rcases hA with h0 | ⟨b, off, e, _, hc⟩
   ·rw [h0] at hu; cases hu
   ·injection e with e
    subst e
    rw [Go.WideShapes.add_plain]
    exact hc j u hu) (yy760 m) (by simp only [maxLen]; omega) (by omega) hB
 have e : out.flatMap yy17 ++ m.flatMap yy17 = (out ++ m).flatMap yy17 := List.flatMap_append.symm
 rw [e, ← List.length_append] at h2
 obtain ⟨A', c', rfl⟩ := own_slice h2
 exact ⟨A', c', w', hr, h2, (Below.refl B w).grown h3 hB (fun k hk => (hown.lt k hk).1), fun base e size v n xs he h => yy134 h hown he h3⟩
set_option maxRecDepth 100000 in
theorem yy210 {w : World} {ops : Array Oper} {rest : List Oper} {o : Oper} {a : Act} {Q : Exit → Act → World → Prop} (hgd : o.guard = none) (s x : Operand)
  (ho : o.op = .call { callee := .builtin .append, args := #[s, x], argTypes := #[59, 59] })
  {B c0 : Nat} {A0 : Option Addr} {out : List CommitV} (hown : OwnC w B A0 c0 out) (hB : B ≤ w.heap.size) {ad : Addr} {m : List CommitV} (c : Nat) (hA : ComRow w (some ad) m) (hlen : out.length + m.length ≤ 1099511627776)
  (hs : a.eval s = .slice A0 out.length c0) (hx : a.eval x = .slice (some ad) m.length c)
  (h : ∀ A' c' w', OwnC w' B A' c' (out ++ m) → Below B w w' → (∀ base e size v n xs, e ≠ 61 → w.ownsRow base e size v n xs → w'.ownsRow base e size v n xs) → wpList Tryd.prog ops Q rest (a.put o.dst (.slice A' (out ++ m).length c')) w') : wpList Tryd.prog ops Q (o :: rest) a w := by
 refine wpList_plain hgd fun K hK => ?_
 obtain ⟨A', c', w', hrun, h1, h2, h3⟩ := yy607 hown hB c hA hlen o.type
 unfold Oper.wp execOp
 simp only [ho, resolve, invoke, builtin, Sem.run_bind, Sem.run_pure, Result.andThen_ok, List.map_toArray, List.map_cons, List.map_nil, hs, hx, hrun]
 exact hK _ _ (h A' c' w' h1 h2 h3)
theorem yy761 (x : World) (n : CommitV) (g : Nat) (hg : g = x.heap.size) : ComRow (x.alloc (.cells (yy17 n).toArray 61)) (some ⟨g, 0, none⟩) [n] := by
 subst hg
 refine .inr ⟨_, 0, rfl, by simp, fun j v hj => ?_⟩
 rw [cell_of_row _ _ _ _ _ _ (heap_alloc_new x _)]
 simpa using hj
theorem yy401 : Tryd.prog.elem 59 = 61 := by kernel_rfl
theorem yy608 (w : World) : (sizeOf 61).run Tryd.prog w = .ok 4 w := Tryd.sizeOf61 w
theorem yy541 {w : World} {b off : Nat} {l : List CommitV} {c k : Nat} (h : yy63 w (some ⟨b, off, none⟩) l) (hc : l.length ≤ c) (hk : k < l.length) :
  (∀ w, (Instr.slice 59 (.slice (some ⟨b, off, none⟩) l.length c) (some (.int .i64 (k : Int))) (some (.int .i64 ((k : Int) + 1))) none).run Tryd.prog w = .ok (.slice (some ⟨b, off + k * 4, none⟩) 1 (c - k)) w) ∧ yy63 w (some ⟨b, off + k * 4, none⟩) [l[k]] := by
 obtain ⟨h0, h1, h2, h3⟩ := h.at_ hk
 obtain ⟨b', off', e, hb⟩ := h.form (by omega)
 injection e with e
 injection e with e1 e2
 subst e1 e2
 refine ⟨fun w => ?_, .inr ⟨b, off + k * 4, rfl, hb, fun j v hj => ?_⟩, fun y hy => by rw [List.mem_singleton.1 hy]; exact h.2 _ (List.getElem_mem hk)⟩
 ·rw [run_slice_lh (P := Tryd.prog) (w := w) 59 (some ⟨b, off, none⟩) l.length c (by rw [yy401]; exact Tryd.underlying59) .i64 .i64 (k : Int) ((k : Int) + 1) (by omega) (by omega) (by omega), yy401, yy608]
  simp [Result.andThen, sliced, Go.WideShapes.add_plain]
  omega
 ·match j with
  | 0 => simp [yy17] at hj; rw [← hj]; exact h0
  | 1 => simp [yy17] at hj; rw [← hj]; exact h1
  | 2 => simp [yy17] at hj; rw [← hj]; exact h2
  | 3 => simp [yy17] at hj; rw [← hj]; exact h3
  | j + 4 => simp [yy17] at hj
end Go.Proofs.YtjpjdkdbgjipnaaDoor
