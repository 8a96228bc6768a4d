/- The document's own SameActs: two lists of acts. Condition: no slice and no text is longer than memory. (Merged of 8 texts.) -/
import Derived.Test.YtjpjdkdbgjipnaaDoorU34
import Derived.Test.YtjpjdkdbgjipnaaDoorU9
import Derived.Test.YtjpjdkdbgjipnaaDoorU24
import Derived.Deep.DeepAppendWide
import Derived.Laws.OwnMore
import Derived.Deep.AppendLies
import Derived.Test.YtjpjdkdbgjipnaaDoorU0
import Derived.Deep.QuietTactic
import Derived.BigQuiet
import Derived.Test.YtjpjdkdbgjipnaaDoorU37
import Derived.Test.YtjpjdkdbgjipnaaDoorU1
namespace Go.Proofs.YtjpjdkdbgjipnaaDoor
open Go.RowKit Go.Deep
theorem yy602 {l : List Nat} (h : ¬ ∃ vs, V l vs) : cps l = [] := by
 unfold cps
 rw [dif_neg h]
theorem cps_le (l : List Nat) : (cps l).length ≤ l.length := by
 by_cases h : ∃ vs, V l vs
 ·obtain ⟨vs, h⟩ := h
  rw [cps_of h]
  exact h.length_le
 ·rw [yy602 h]
  exact Nat.zero_le _
set_option maxRecDepth 100000 in
theorem yy172 (l : List Nat) (hb : ∀ x ∈ l, x < 256) (hl : l.length ≤ 1099511627776) (w : World) :
  Calls Tryd.prog 30 #[.string (bstr l)] w fun e w' => e = .returned (.int .i64 (((cps l).length : Nat) : Int)) ∧ Below w.heap.size w w' := by
 have HP := xh (yy132 l hb hl w)
 have HC := cps_le l
 have hcb : (cps l).length ≤ 1099511627776 := by omega
 clear HC
 go_enter Tryd.func30, Tryd.ntmps30
 go_wp2_with fail
 refine HP.out.mono ?_
 rintro e w1 ⟨⟨ws, hv, A, c, rfl, _⟩ | ⟨hn, rfl⟩, hbel⟩
 ·rw [yy238]
  have HV := xh (cps_of hv)
  clear hv
  go_wp2
  go_ret
  exact ⟨by rw [HV.out]; rfl, hbel⟩
 ·have HV := xh (yy602 hn)
  clear hn
  go_wp2
  go_ret
  exact ⟨by rw [HV.out]; rfl, hbel⟩
noncomputable def rTotal (l : List NodeV) : Nat := (l.map fun y => (cps y.text).length).sum
theorem yy271 (l : List NodeV) {k : Nat} (h : k < l.length) : rTotal (l.take (k + 1)) = rTotal (l.take k) + (cps l[k].text).length := by
 unfold rTotal
 rw [List.take_succ_eq_append_getElem h, List.map_append, List.sum_append]
 simp
theorem yy529 {l : List NodeV} (ht : ∀ y ∈ l, y.text.length ≤ 1099511627776) : ∀ k, k ≤ l.length → rTotal (l.take k) ≤ k * 1099511627776 := by
 intro k
 induction k with
 | zero => intro _; rw [List.take_zero]; exact Nat.zero_le _
 | succ k ih =>
  intro hk
  have h1 := ih (by omega)
  have h2 := cps_le (l[k]'hk).text
  have h3 := ht _ (List.getElem_mem (show k < l.length from hk))
  rw [yy271 l hk]
  omega
attribute [irreducible] rTotal
theorem yy242 : rTotal ([] : List NodeV) = 0 := by unfold rTotal; rfl
set_option maxHeartbeats 1000000 in
set_option maxRecDepth 100000 in
theorem yy429 (A : Option Addr) (c : Nat) (l : List NodeV) (hl : l.length ≤ 1048576) (hg : ∀ y ∈ l, y.Good) (ht : ∀ y ∈ l, y.text.length ≤ 1099511627776) (w : World) (hA : yy14 w A l) :
  Calls Tryd.prog 51 #[.slice A l.length c] w fun e w' => e = .returned (.int .i64 ((rTotal l : Nat) : Int)) ∧ Below w.heap.size w w' := by
 have HA := xh hA; clear hA
 have HG := xh hg; clear hg
 have HTX := xh ht; clear ht
 have HBD := xh (fun k h => yy529 HTX.out k h)
 go_enter Tryd.func51, Tryd.ntmps51
 go_wp2
 go_loopw [3, 4] (fun t i wr => ∃ (k m : Nat), k ≤ l.length ∧ t = .int .i64 (m : Int) ∧ i = .int .i64 (k : Int) ∧ Hid (rTotal (l.take k) = m) ∧ Hid (Below w.heap.size w wr)) (fun _ i _ => l.length - (intOf i).toNat)
 case atStart => exact ⟨0, 0, Nat.zero_le _, rfl, rfl, by rw [List.take_zero]; exact xh yy242, xh (Below.refl _ _)⟩
 case round =>
  obtain ⟨k, m, hk, rfl, rfl, HM, HB⟩ := hrel
  by_cases hlt : k < l.length
  ·obtain ⟨b, off, rfl, _⟩ := HA.out.form (by omega)
   have hc4 := ((HA.out.below HB.out).at_ hlt).2.2.2.2
   have hmem := List.getElem_mem hlt
   have GC := xh (fun w => yy172 l[k].text (HG.out _ hmem).2.2.2.1 (HTX.out _ hmem) w)
   have HS := xh (yy271 l hlt)
   have h1 := HBD.out (k + 1) hlt
   rw [HM.out] at HS
   generalize l[k].text = tx at hc4 GC HS
   generalize (cps tx).length = n at GC HS
   have hmn : (m : Int) + (n : Int) ≤ 1152921504606846976 := by have := HS.out; omega
   clear h1 hmem
   go_wp2_with fail
   refine (GC.out _).mono ?_
   rintro e w1 ⟨rfl, hb⟩
   have HB1 := xh (HB.out.trans (hb.mono HB.out.size))
   clear hb
   go_wp2
   go_roundw
   case rel => exact ⟨k + 1, m + n, by omega, by go_num, by go_num, HS, HB1⟩
   case measure => simp [intOf]; omega
  ·have HR : Hid (rTotal l = m) := by
    show _ = _
    rw [← HM.out, List.take_of_length_le (by omega)]
   go_wp2
   go_ret
   exact ⟨by rw [HR.out]; rfl, HB.out⟩
def rUp (l : List NodeV) (parent id : Int) : Int := if parent = 0 then 0 else match rFind l parent with
 | none => 5
 | some k => if ((l[k]?).getD default).dir = false then 8 else if 0 < id ∧ yy80 l parent id = true then 10 else 0
def rPlace (l : List NodeV) (parent : Int) (name : List Nat) (id : Int) : Int :=
 if rUp l parent id = 0 then (if 0 ≤ rChild l parent name ∧ rChild l parent name ≠ id then 6 else 0) else rUp l parent id
theorem yy804 (l : List NodeV) (id : Int) : rUp l 0 id = 0 := if_pos rfl
theorem yy603 {l : List NodeV} {parent : Int} (id : Int) (h : parent ≠ 0) (hf : rFind l parent = none) : rUp l parent id = 5 := by
 unfold rUp; rw [if_neg h, hf]
theorem yy604 {l : List NodeV} {parent : Int} (id : Int) {k : Nat} (hk : k < l.length) (h : parent ≠ 0) (hf : rFind l parent = some k) : rUp l parent id = if l[k].dir = false then 8 else if 0 < id ∧ yy80 l parent id = true then 10 else 0 := by
 unfold rUp
 rw [if_neg h, hf]
 show (if ((l[k]?).getD default).dir = false then _ else _) = _
 rw [List.getElem?_eq_getElem hk]
 rfl
theorem yy486 {l : List NodeV} {parent id : Int} {name : List Nat} {u : Int} (h : rUp l parent id = u) (h0 : u ≠ 0) : rPlace l parent name id = u := by
 unfold rPlace; rw [h, if_neg h0]
theorem yy272 {l : List NodeV} {parent id : Int} {name : List Nat} (h : rUp l parent id = 0) (h1 : 0 ≤ rChild l parent name) (h2 : rChild l parent name ≠ id) : rPlace l parent name id = 6 := by
 unfold rPlace; rw [h, if_pos rfl, if_pos ⟨h1, h2⟩]
theorem yy697 {l : List NodeV} {parent id : Int} {name : List Nat} (h : rUp l parent id = 0) (h1 : rChild l parent name < 0 ∨ rChild l parent name = id) : rPlace l parent name id = 0 := by
 unfold rPlace; rw [h, if_pos rfl, if_neg (by omega)]
attribute [irreducible] rUp rPlace
set_option maxHeartbeats 2000000 in
set_option maxRecDepth 100000 in
theorem yy119 (A : Option Addr) (c : Nat) (l : List NodeV) (parent : Int) (name : List Nat) (id : Int) (hl : l.length ≤ 1048576) (hg : ∀ y ∈ l, y.Good) (hn : ∀ x ∈ name, x < 256) (w : World) (hA : yy14 w A l) :
  Calls Tryd.prog 48 #[.slice A l.length c, .int .i64 parent, .string (bstr name), .int .i64 id] w fun e w' => e = .returned (.int .i64 (rPlace l parent name id)) ∧ w = w' := by
 have HA := xh hA
 have GF := xh (yy48 A c l parent (by unfold maxLen; omega) w hA)
 have GC := xh (yy270 A c l parent name (by unfold maxLen; omega) hg hn w hA)
 have GW := xh (yy226 A c l parent id (by omega) w hA)
 obtain ⟨T, HT⟩ : ∃ T, Hid (rPlace l parent name id = T) := ⟨_, xh rfl⟩
 rw [HT.out]
 have HTHERE : Hid (rUp l parent id = 0 → 0 ≤ rChild l parent name → rChild l parent name ≠ id → T = 6) := fun h1 h2 h3 => by rw [← HT.out]; exact yy272 h1 h2 h3
 have HOK : Hid (rUp l parent id = 0 → (rChild l parent name < 0 ∨ rChild l parent name = id) → T = 0) := fun h1 h2 => by rw [← HT.out]; exact yy697 h1 h2
 have HUP : Hid (∀ u, rUp l parent id = u → u ≠ 0 → T = u) := fun u h1 h2 => by rw [← HT.out]; exact yy486 h1 h2
 clear hA HT
 generalize rChild l parent name = ch at GC HTHERE HOK
 by_cases p0 : parent = 0
 ·have HU : Hid (rUp l parent id = 0) := by show _ = _; rw [p0]; exact yy804 l id
  have q0 : (parent != 0) = false := by rw [p0]; rfl
  clear p0
  by_cases c0 : ch < 0
  ·have HF : Hid (T = 0) := HOK.out HU.out (.inl c0)
   have c1 : ¬ 0 ≤ ch := by omega
   clear HUP HOK HTHERE
   go_enter Tryd.func48, Tryd.ntmps48
   go_wp2_with fail
   refine (GC.out).mono ?_
   rintro e v ⟨rfl, rfl⟩
   go_wp2
   go_ret
   exact ⟨by rw [HF.out]; rfl, rfl⟩
  ·have c1 : 0 ≤ ch := by omega
   by_cases c2 : ch = id
   ·have HF : Hid (T = 0) := HOK.out HU.out (.inr c2)
    have c3 : (ch != id) = false := by rw [c2]; simp
    clear HUP HOK HTHERE c2
    go_enter Tryd.func48, Tryd.ntmps48
    go_wp2_with fail
    refine (GC.out).mono ?_
    rintro e v ⟨rfl, rfl⟩
    go_wp2
    go_ret
    exact ⟨by rw [HF.out]; rfl, rfl⟩
   ·have HF : Hid (T = 6) := HTHERE.out HU.out c1 c2
    have c3 : (ch != id) = true := by simpa using c2
    clear HUP HOK HTHERE c2
    go_enter Tryd.func48, Tryd.ntmps48
    go_wp2_with fail
    refine (GC.out).mono ?_
    rintro e v ⟨rfl, rfl⟩
    go_wp2
    go_ret
    exact ⟨by rw [HF.out]; rfl, rfl⟩
 have q0 : (parent != 0) = true := by simpa using p0
 cases hf : rFind l parent with
 | none =>
  have HF : Hid (T = 5) := HUP.out 5 (yy603 id p0 hf) (by omega)
  rw [hf] at GF
  clear hf p0 HUP HOK HTHERE
  go_enter Tryd.func48, Tryd.ntmps48
  go_wp2_with fail
  refine (GF.out).mono ?_
  rintro e v ⟨rfl, rfl⟩
  rw [show findI none = -1 from rfl]
  go_wp2
  go_ret
  exact ⟨by rw [HF.out]; rfl, rfl⟩
 | some q =>
  obtain ⟨hq, _, _⟩ := yy21 hf
  have HUS := xh (yy604 id hq p0 hf)
  rw [hf, show findI (some q) = (q : Int) from rfl] at GF
  obtain ⟨b, off, rfl, _⟩ := HA.out.form (by omega)
  have hc3 := (HA.out.at_ hq).2.2.2.1
  have hqi : (q : Int) < (l.length : Int) := by omega
  have hq0 : ¬ (q : Int) < 0 := by omega
  clear hf p0
  cases hd : l[q].dir with
  | false =>
   have HF : Hid (T = 8) := HUP.out 8 (by rw [HUS.out, if_pos hd]) (by omega)
   rw [hd] at hc3
   clear hd HUS HUP HOK HTHERE
   go_enter Tryd.func48, Tryd.ntmps48
   go_wp2_with fail
   refine (GF.out).mono ?_
   rintro e v ⟨rfl, rfl⟩
   go_wp2
   go_ret
   exact ⟨by rw [HF.out]; rfl, rfl⟩
  | true =>
   have HUT : Hid (rUp l parent id = if 0 < id ∧ yy80 l parent id = true then 10 else 0) := by show _ = _; rw [HUS.out, if_neg (by rw [hd]; simp)]
   rw [hd] at hc3
   clear hd HUS
   by_cases i0 : 0 < id
   ·cases hw : yy80 l parent id with
    | true =>
     have HF : Hid (T = 10) := HUP.out 10 (by rw [HUT.out, if_pos ⟨i0, hw⟩]) (by omega)
     rw [hw] at GW
     clear hw HUT HUP HOK HTHERE
     go_enter Tryd.func48, Tryd.ntmps48
     go_wp2_with fail
     refine (GF.out).mono ?_
     rintro e v ⟨rfl, rfl⟩
     go_wp2_with fail
     refine (GW.out).mono ?_
     rintro e v ⟨rfl, rfl⟩
     go_wp2
     go_ret
     exact ⟨by rw [HF.out]; rfl, rfl⟩
    | false =>
     have HU : Hid (rUp l parent id = 0) := by show _ = _; rw [HUT.out, if_neg (by rw [hw]; simp)]
     rw [hw] at GW
     clear hw HUT
     by_cases c0 : ch < 0
     ·have HF : Hid (T = 0) := HOK.out HU.out (.inl c0)
      have c1 : ¬ 0 ≤ ch := by omega
      clear HUP HOK HTHERE
      go_enter Tryd.func48, Tryd.ntmps48
      go_wp2_with fail
      refine (GF.out).mono ?_
      rintro e v ⟨rfl, rfl⟩
      go_wp2_with fail
      refine (GW.out).mono ?_
      rintro e v ⟨rfl, rfl⟩
      go_wp2_with fail
      refine (GC.out).mono ?_
      rintro e v ⟨rfl, rfl⟩
      go_wp2
      go_ret
      exact ⟨by rw [HF.out]; rfl, rfl⟩
     ·have c1 : 0 ≤ ch := by omega
      by_cases c2 : ch = id
      ·have HF : Hid (T = 0) := HOK.out HU.out (.inr c2)
       have c3 : (ch != id) = false := by rw [c2]; simp
       clear HUP HOK HTHERE c2
       go_enter Tryd.func48, Tryd.ntmps48
       go_wp2_with fail
       refine (GF.out).mono ?_
       rintro e v ⟨rfl, rfl⟩
       go_wp2_with fail
       refine (GW.out).mono ?_
       rintro e v ⟨rfl, rfl⟩
       go_wp2_with fail
       refine (GC.out).mono ?_
       rintro e v ⟨rfl, rfl⟩
       go_wp2
       go_ret
       exact ⟨by rw [HF.out]; rfl, rfl⟩
      ·have HF : Hid (T = 6) := HTHERE.out HU.out c1 c2
       have c3 : (ch != id) = true := by simpa using c2
       clear HUP HOK HTHERE c2
       go_enter Tryd.func48, Tryd.ntmps48
       go_wp2_with fail
       refine (GF.out).mono ?_
       rintro e v ⟨rfl, rfl⟩
       go_wp2_with fail
       refine (GW.out).mono ?_
       rintro e v ⟨rfl, rfl⟩
       go_wp2_with fail
       refine (GC.out).mono ?_
       rintro e v ⟨rfl, rfl⟩
       go_wp2
       go_ret
       exact ⟨by rw [HF.out]; rfl, rfl⟩
   ·have HU : Hid (rUp l parent id = 0) := by show _ = _; rw [HUT.out, if_neg (fun h => i0 h.1)]
    clear HUT
    by_cases c0 : ch < 0
    ·have HF : Hid (T = 0) := HOK.out HU.out (.inl c0)
     have c1 : ¬ 0 ≤ ch := by omega
     clear HUP HOK HTHERE
     go_enter Tryd.func48, Tryd.ntmps48
     go_wp2_with fail
     refine (GF.out).mono ?_
     rintro e v ⟨rfl, rfl⟩
     go_wp2_with fail
     refine (GC.out).mono ?_
     rintro e v ⟨rfl, rfl⟩
     go_wp2
     go_ret
     exact ⟨by rw [HF.out]; rfl, rfl⟩
    ·have c1 : 0 ≤ ch := by omega
     by_cases c2 : ch = id
     ·have HF : Hid (T = 0) := HOK.out HU.out (.inr c2)
      have c3 : (ch != id) = false := by rw [c2]; simp
      clear HUP HOK HTHERE c2
      go_enter Tryd.func48, Tryd.ntmps48
      go_wp2_with fail
      refine (GF.out).mono ?_
      rintro e v ⟨rfl, rfl⟩
      go_wp2_with fail
      refine (GC.out).mono ?_
      rintro e v ⟨rfl, rfl⟩
      go_wp2
      go_ret
      exact ⟨by rw [HF.out]; rfl, rfl⟩
     ·have HF : Hid (T = 6) := HTHERE.out HU.out c1 c2
      have c3 : (ch != id) = true := by simpa using c2
      clear HUP HOK HTHERE c2
      go_enter Tryd.func48, Tryd.ntmps48
      go_wp2_with fail
      refine (GF.out).mono ?_
      rintro e v ⟨rfl, rfl⟩
      go_wp2_with fail
      refine (GC.out).mono ?_
      rintro e v ⟨rfl, rfl⟩
      go_wp2
      go_ret
      exact ⟨by rw [HF.out]; rfl, rfl⟩
theorem yy699 : (Tryd.prog.info? 44).map (fun i => (i.zero, i.size, i.bytes)) = some (some (.agg #[.int .i64 0, .int .i64 0, .string { data := #[] }, .bool false, .string { data := #[] }]), 5, 56) := by kernel_rfl
def OwnN (w : World) (B : Nat) (A : Option Addr) (c : Nat) (l : List NodeV) : Prop := w.ownsRow B 44 5 (.slice A l.length c) l.length (l.flatMap yy8)
theorem yy805 (l : List NodeV) : ∀ u ∈ l.flatMap yy8, u.oneCell' = true := by
 intro u hu
 obtain ⟨y, _, hy⟩ := List.mem_flatMap.1 hu
 simp [yy8] at hy
 rcases hy with rfl | rfl | rfl | rfl | rfl <;> rfl
theorem OwnN.nodes {w : World} {B c : Nat} {A : Option Addr} {l : List NodeV} (h : OwnN w B A c l) : NodesC w A c l := by
 refine ⟨yy6.of_own h, ?_⟩
 rcases h.2 with ⟨e, h0⟩ | ⟨g, cap, cur, e, _, _, hn, _⟩
 ·omega
 ·injection e with _ _ e
  omega
theorem OwnN.empty (w : World) {B : Nat} (h : B ≤ w.heap.size) : OwnN (w.alloc (.cells #[] 44)) B (some ⟨w.heap.size, 0, none⟩) 0 [] := World.ownsRow_lit w #[] 0 h (by simp [maxLen]) rfl
theorem OwnN.alloc {w : World} {B c : Nat} {A : Option Addr} {l : List NodeV} (h : OwnN w B A c l) (o : Obj) : OwnN (w.alloc o) B A c l := World.ownsRow.alloc h o
theorem yy301 {w : World} (base : Nat) (t ty e : TypeId) (i : TypeInfo) (size : Nat) (ht : Tryd.prog.underlying t = some (.slice e)) (hi : Tryd.prog.info? e = some i) (v : Value) (n : Nat) (xs : List Value) (c : Nat) (hown : w.ownsRow base e size v n xs) :
  (Builtin.append_ #[t, t] ty #[v, .slice none 0 c]).run Tryd.prog w = .ok v w := by
 rcases hown.2 with ⟨rfl, rfl⟩ | ⟨g, cap, cur, rfl, _, _, hnc, _⟩
 ·simp [Builtin.append_, run_underlying ht, sizeOf, typeInfo, hi, Builtin.lenOf, Builtin.firstCells]
 ·simp [Builtin.append_, run_underlying ht, sizeOf, typeInfo, hi, Builtin.lenOf, Builtin.firstCells, hnc, storeCells]
set_option maxRecDepth 100000 in
theorem yy190 {w : World} {B c0 : Nat} {A0 : Option Addr} {out : List NodeV} (hown : OwnN w B A0 c0 out) (hB : B ≤ w.heap.size) {A : Option Addr} {m : List NodeV} (c : Nat) (hA : yy14 w A m) (hlen : out.length + m.length ≤ 1099511627776) (ty : TypeId) :
  ∃ A' c' w', (Builtin.append_ #[22, 22] ty #[.slice A0 out.length c0, .slice A m.length c]).run Tryd.prog w = .ok (.slice A' (out ++ m).length c') w' ∧ OwnN w' B A' c' (out ++ m) ∧ Below B w w' ∧ ∀ (g : Nat) (l : List NodeV), g < w.heap.size → (∀ b, A0 = some b → b.block ≠ g) → yy14 w (some ⟨g, 0, none⟩) l → yy14 w' (some ⟨g, 0, none⟩) l := by
 obtain ⟨i0, hi0, hz0, hz1, hz2⟩ := info_parts yy699
 cases A with
 | none =>
  have hm : m = [] := by
   cases m with
   | nil => rfl
   | cons y m =>
    obtain ⟨b, off, e, _⟩ := hA.form (by simp)
    cases e
  subst hm
  refine ⟨A0, c0, w, ?_, ?_, Below.refl _ _, fun _ _ _ _ h => h⟩
  ·rw [List.append_nil]
   exact yy301 B _ ty _ i0 5 Tryd.underlying22 hi0 _ _ _ c hown
  ·rw [List.append_nil]
   exact hown
 | some ad =>
  obtain ⟨v', w', hr, h2, h3, _⟩ := run_append_own_wide (P := Tryd.prog) w B 22 ty 44 i0 (.agg #[.int .i64 0, .int .i64 0, .string { data := #[] }, .bool false, .string { data := #[] }]) 5 56 Tryd.underlying22 hi0 hz0 hz1 hz2 rfl (by omega)
   _ out.length (out.flatMap yy8) hown ad m.length c (m.flatMap yy8) (yy29 yy8 5 yy23 m) (fun j u hu => by
    rcases hA with h0 | ⟨b, off, e, _, hc⟩
    ·rw [h0] at hu; cases hu
    ·injection e with e
     subst e
     rw [Go.WideShapes.add_plain]
     exact hc j u hu) (yy805 m) (by simp only [maxLen]; omega) (by omega) hB
  have e : out.flatMap yy8 ++ m.flatMap yy8 = (out ++ m).flatMap yy8 := List.flatMap_append.symm
  rw [e, ← List.length_append] at h2
  obtain ⟨A', c', rfl⟩ := own_slice h2
  refine ⟨A', c', w', hr, h2, (Below.refl B w).grown h3 hB (fun k hk => (hown.lt k hk).1), fun g l hg hne h => ?_⟩
  rcases h with h | ⟨b, off, e, hlt, hc⟩
  ·exact .inl h
  ·injection e with e
   injection e with e1 e2
   subst e1 e2
   refine .inr ⟨g, 0, rfl, Nat.lt_of_lt_of_le hlt h3.size, fun j v hj => (h3.cell_far ⟨g, 0 + j, none⟩ hlt ?_).trans (hc j v hj)⟩
   cases A0 with
   | none => intro e; cases e
   | some a =>
    intro e
    injection e with e
    exact hne a rfl e.symm
theorem yy384 {w : World} {B c0 : Nat} {A0 : Option Addr} {out : List NodeV} (hown : OwnN w B A0 c0 out) (hB : B ≤ w.heap.size) {A : Option Addr} {m : List NodeV} (c : Nat) (hA : yy14 w A m) (hlen : out.length + m.length ≤ 1099511627776) (ty : TypeId) :
  ∃ A' c' w', (Builtin.append_ #[22, 22] ty #[.slice A0 out.length c0, .slice A m.length c]).run Tryd.prog w = .ok (.slice A' (out ++ m).length c') w' ∧ OwnN w' B A' c' (out ++ m) ∧ Below B w w' := by
 obtain ⟨A', c', w', h1, h2, h3, _⟩ := yy190 hown hB c hA hlen ty
 exact ⟨A', c', w', h1, h2, h3⟩
theorem yy173 {w : World} {o : Oper} {a : Act} {K : Act → World → Prop} {Q : Exit → Act → World → Prop} (s x : Operand)
  (ho : o.op = .call { callee := .builtin .append, args := #[s, x], argTypes := #[22, 22] })
  {B c0 : Nat} {A0 : Option Addr} {out : List NodeV} (hown : OwnN w B A0 c0 out) (hB : B ≤ w.heap.size) {A : Option Addr} {m : List NodeV} (c : Nat) (hA : yy14 w A m) (hlen : out.length + m.length ≤ 1099511627776)
  (hs : a.eval s = .slice A0 out.length c0) (hx : a.eval x = .slice A m.length c)
  (hK : ∀ A' c' w', OwnN w' B A' c' (out ++ m) → Below B w w' → K (a.put o.dst (.slice A' (out ++ m).length c')) w') : o.wp Tryd.prog a w K Q := by
 obtain ⟨A', c', w', hrun, h1, h2⟩ := yy384 hown hB c hA hlen o.type
 unfold Oper.wp execOp
 simp only [ho, resolve, invoke, builtin, Sem.run_bind, Sem.run_pure, Result.andThen_ok, List.map_toArray, List.map_cons, List.map_nil, hs, hx, hrun]
 exact hK A' c' w' h1 h2
theorem yy19 {w : World} {o : Oper} {a : Act} {K : Act → World → Prop} {Q : Exit → Act → World → Prop} (s x : Operand)
  (ho : o.op = .call { callee := .builtin .append, args := #[s, x], argTypes := #[22, 22] })
  {B c0 : Nat} {A0 : Option Addr} {out : List NodeV} (hown : OwnN w B A0 c0 out) (hB : B ≤ w.heap.size) {A : Option Addr} {m : List NodeV} (c : Nat) (hA : yy14 w A m) (hlen : out.length + m.length ≤ 1099511627776)
  (hs : a.eval s = .slice A0 out.length c0) (hx : a.eval x = .slice A m.length c)
  (hK : ∀ A' c' w', OwnN w' B A' c' (out ++ m) → Below B w w' → (∀ (g : Nat) (l : List NodeV), g < w.heap.size → (∀ b, A0 = some b → b.block ≠ g) → yy14 w (some ⟨g, 0, none⟩) l → yy14 w' (some ⟨g, 0, none⟩) l) → K (a.put o.dst (.slice A' (out ++ m).length c')) w') : o.wp Tryd.prog a w K Q := by
 obtain ⟨A', c', w', hrun, h1, h2, h3⟩ := yy190 hown hB c hA hlen o.type
 unfold Oper.wp execOp
 simp only [ho, resolve, invoke, builtin, Sem.run_bind, Sem.run_pure, Result.andThen_ok, List.map_toArray, List.map_cons, List.map_nil, hs, hx, hrun]
 exact hK A' c' w' h1 h2 h3
theorem yy274 {w : World} {ops : Array Oper} {rest : List Oper} {o : Oper} {a : Act} {Q : Exit → Act → World → Prop} (hgd : o.guard = none) (s x : Operand)
  (ho : o.op = .call { callee := .builtin .append, args := #[s, x], argTypes := #[22, 22] })
  {B c0 : Nat} {A0 : Option Addr} {out : List NodeV} (hown : OwnN w B A0 c0 out) (hB : B ≤ w.heap.size) {A : Option Addr} {m : List NodeV} (c : Nat) (hA : yy14 w A m) (hlen : out.length + m.length ≤ 1099511627776)
  (hs : a.eval s = .slice A0 out.length c0) (hx : a.eval x = .slice A m.length c)
  (h : ∀ A' c' w', OwnN w' B A' c' (out ++ m) → Below B w w' → wpList Tryd.prog ops Q rest (a.put o.dst (.slice A' (out ++ m).length c')) w') : wpList Tryd.prog ops Q (o :: rest) a w :=
 wpList_plain hgd fun _ hK => yy173 s x ho hown hB c hA hlen hs hx fun A' c' w' h1 h2 => hK _ _ (h A' c' w' h1 h2)
theorem yy122 (x : World) (n : NodeV) (g : Nat) (hg : g = x.heap.size) : yy14 (x.alloc (.cells (yy8 n).toArray 44)) (some ⟨g, 0, none⟩) [n] := by
 subst hg
 refine .inr ⟨_, 0, rfl, by simp, fun j v hj => ?_⟩
 rw [cell_of_row _ _ _ _ _ _ (heap_alloc_new x _)]
 simpa using hj
theorem yy700 {l : List NodeV} {k : Nat} (hk : k < l.length) (y : NodeV) :
  (((((l.flatMap yy8).set (k * 5) (.int .i64 y.id)).set (k * 5 + 1) (.int .i64 y.parent)).set (k * 5 + 2) (.string (bstr y.name))).set (k * 5 + 3) (.bool y.dir)).set (k * 5 + 4) (.string (bstr y.text)) = (l.set k y).flatMap yy8 := by
 have hl : (l.flatMap yy8).length = l.length * 5 := yy29 yy8 5 yy23 l
 have hl2 : ((l.set k y).flatMap yy8).length = l.length * 5 := by rw [yy29 yy8 5 yy23, List.length_set]
 apply List.ext_getElem?
 intro j
 by_cases hj : j < l.length * 5
 ·obtain ⟨i, f, hf, rfl⟩ : ∃ i f, f < 5 ∧ j = i * 5 + f := ⟨j / 5, j % 5, Nat.mod_lt _ (by omega), by omega⟩
  have hi : i < l.length := by omega
  have hi2 : i < (l.set k y).length := by rw [List.length_set]; exact hi
  rw [flat_get yy8 5 yy23 (l.set k y) i hi2 f hf]
  by_cases hik : i = k
  ·subst hik
   rw [List.getElem_set_self]
   match f, hf with
   | 0, _ => simp only [List.getElem?_set, List.length_set, hl]; simp [yy8]; omega
   | 1, _ => simp only [List.getElem?_set, List.length_set, hl]; simp [yy8]; omega
   | 2, _ => simp only [List.getElem?_set, List.length_set, hl]; simp [yy8]; omega
   | 3, _ => simp only [List.getElem?_set, List.length_set, hl]; simp [yy8]; omega
   | 4, _ => simp only [List.getElem?_set, List.length_set, hl]; simp [yy8]; omega
  ·rw [List.getElem_set_ne (fun e => hik e.symm)]
   rw [List.getElem?_set_ne (by omega), List.getElem?_set_ne (by omega), List.getElem?_set_ne (by omega), List.getElem?_set_ne (by omega), List.getElem?_set_ne (by omega), flat_get yy8 5 yy23 l i hi f hf]
 ·rw [List.getElem?_eq_none (by simp only [List.length_set, hl]; omega), List.getElem?_eq_none (by rw [hl2]; omega)]
def yy488 (w : World) (g off : Nat) (y : NodeV) : World :=
 ((((w.setCell ⟨g, off, none⟩ (.int .i64 y.id)).setCell ⟨g, off + 1, none⟩ (.int .i64 y.parent)).setCell ⟨g, off + 2, none⟩ (.string (bstr y.name))).setCell ⟨g, off + 3, none⟩ (.bool y.dir)).setCell ⟨g, off + 4, none⟩ (.string (bstr y.text))
theorem OwnN.put {w : World} {B g n c : Nat} {l : List NodeV} (h : w.ownsRow B 44 5 (.slice (some ⟨g, 0, none⟩) n c) n (l.flatMap yy8)) (hn : n = l.length) {k : Nat} (hk : k < l.length) (y : NodeV) :
  OwnN (yy488 w g (k * 5) y) B (some ⟨g, 0, none⟩) c (l.set k y) := by
 subst hn
 have h5 := ((((h.stored (k * 5) (.int .i64 y.id)).1.stored (k * 5 + 1) (.int .i64 y.parent)).1.stored (k * 5 + 2) (.string (bstr y.name))).1.stored (k * 5 + 3) (.bool y.dir)).1.stored (k * 5 + 4) (.string (bstr y.text))
 rw [yy700 hk y] at h5
 unfold OwnN yy488
 rw [List.length_set]
 exact h5.1
theorem yy701 {w : World} {B g n c : Nat} {xs : List Value} (h : w.ownsRow B 44 5 (.slice (some ⟨g, 0, none⟩) n c) n xs) {k : Nat} (hk : k < n) (y : NodeV) :
  (∃ v, w.cell? ⟨g, k * 5, none⟩ = some v) ∧ w.frozen? ⟨g, k * 5, none⟩ = false ∧
  (∃ v, (w.setCell ⟨g, k * 5, none⟩ (.int .i64 y.id)).cell? ⟨g, k * 5 + 1, none⟩ = some v) ∧ (w.setCell ⟨g, k * 5, none⟩ (.int .i64 y.id)).frozen? ⟨g, k * 5 + 1, none⟩ = false ∧
  (∃ v, ((w.setCell ⟨g, k * 5, none⟩ (.int .i64 y.id)).setCell ⟨g, k * 5 + 1, none⟩ (.int .i64 y.parent)).cell? ⟨g, k * 5 + 2, none⟩ = some v) ∧ ((w.setCell ⟨g, k * 5, none⟩ (.int .i64 y.id)).setCell ⟨g, k * 5 + 1, none⟩ (.int .i64 y.parent)).frozen? ⟨g, k * 5 + 2, none⟩ = false ∧
  (∃ v, (((w.setCell ⟨g, k * 5, none⟩ (.int .i64 y.id)).setCell ⟨g, k * 5 + 1, none⟩ (.int .i64 y.parent)).setCell ⟨g, k * 5 + 2, none⟩ (.string (bstr y.name))).cell? ⟨g, k * 5 + 3, none⟩ = some v) ∧ (((w.setCell ⟨g, k * 5, none⟩ (.int .i64 y.id)).setCell ⟨g, k * 5 + 1, none⟩ (.int .i64 y.parent)).setCell ⟨g, k * 5 + 2, none⟩ (.string (bstr y.name))).frozen? ⟨g, k * 5 + 3, none⟩ = false ∧
  (∃ v, ((((w.setCell ⟨g, k * 5, none⟩ (.int .i64 y.id)).setCell ⟨g, k * 5 + 1, none⟩ (.int .i64 y.parent)).setCell ⟨g, k * 5 + 2, none⟩ (.string (bstr y.name))).setCell ⟨g, k * 5 + 3, none⟩ (.bool y.dir)).cell? ⟨g, k * 5 + 4, none⟩ = some v) ∧ ((((w.setCell ⟨g, k * 5, none⟩ (.int .i64 y.id)).setCell ⟨g, k * 5 + 1, none⟩ (.int .i64 y.parent)).setCell ⟨g, k * 5 + 2, none⟩ (.string (bstr y.name))).setCell ⟨g, k * 5 + 3, none⟩ (.bool y.dir)).frozen? ⟨g, k * 5 + 4, none⟩ = false := by
 have h0 := (h.stored (k * 5) (.int .i64 y.id)).1
 have h1 := (h0.stored (k * 5 + 1) (.int .i64 y.parent)).1
 have h2 := (h1.stored (k * 5 + 2) (.string (bstr y.name))).1
 have h3 := (h2.stored (k * 5 + 3) (.bool y.dir)).1
 have key : ∀ {w' : World} {xs' : List Value} (h' : w'.ownsRow B 44 5 (.slice (some ⟨g, 0, none⟩) n c) n xs') (f : Nat), f < 5 → (∃ v, w'.cell? ⟨g, k * 5 + f, none⟩ = some v) ∧ w'.frozen? ⟨g, k * 5 + f, none⟩ = false := by
  intro w' xs' h' f hf
  have hj : k * 5 + f < n * 5 := by omega
  refine ⟨⟨_, (h'.cellAt (k * 5 + f) hj).trans (List.getElem?_eq_getElem (by rw [h'.1]; exact hj))⟩, h'.frozenAt _⟩
 exact ⟨(key h 0 (by omega)).1, (key h 0 (by omega)).2, (key h0 1 (by omega)).1, (key h0 1 (by omega)).2, (key h1 2 (by omega)).1, (key h1 2 (by omega)).2, (key h2 3 (by omega)).1, (key h2 3 (by omega)).2, (key h3 4 (by omega)).1, (key h3 4 (by omega)).2⟩
theorem yy702 {B : Nat} {a w : World} (h : Below B a w) {g : Nat} (hg : B ≤ g) (off : Nat) (y : NodeV) : Below B a (yy488 w g off y) := by
 unfold yy488
 exact ((((h.setCell (p := ⟨g, off, none⟩) hg _).setCell (p := ⟨g, off + 1, none⟩) hg _).setCell (p := ⟨g, off + 2, none⟩) hg _).setCell (p := ⟨g, off + 3, none⟩) hg _).setCell (p := ⟨g, off + 4, none⟩) hg _
set_option maxHeartbeats 2000000 in
set_option maxRecDepth 100000 in
theorem yy315 (A : Option Addr) (c : Nat) (l : List NodeV) {k : Nat} (hk : k < l.length) (x : NodeV) (hl : l.length ≤ 1048576) (w : World) (hA : yy14 w A l) :
  Calls Tryd.prog 49 #[.slice A l.length c, .int .i64 (k : Int), .agg (yy8 x).toArray] w fun e w' => (∃ A' c', e = .returned (.slice A' l.length c') ∧ OwnN w' w.heap.size A' c' (l.set k x)) ∧ Below w.heap.size w w' := by
 have hki : (k : Int) < (l.length : Int) := by omega
 have HA := xh hA
 clear hA
 obtain ⟨w1, HW1⟩ : ∃ x', Hid (w.alloc (.cells (yy8 x).toArray 44) = x') := ⟨_, xh rfl⟩
 have hs1 : w1.heap.size = w.heap.size + 1 := by rw [← HW1.out]; simp
 have HB1 : Hid (Below w.heap.size w w1) := by
  show Below _ _ _
  rw [← HW1.out]
  exact (Below.refl _ _).alloc (Nat.le_refl _) _
 have HX : Hid (∀ (f : Nat) (v : Value), (yy8 x)[f]? = some v → w1.cell? ⟨w.heap.size, f, none⟩ = some v) := by
  intro f v hf
  rw [← HW1.out, cell_of_row _ _ _ _ _ _ (heap_alloc_new w _)]
  simpa using hf
 have HE := xh (OwnN.empty w1 (Nat.le_refl _))
 have HA2 : Hid (yy14 (w1.alloc (.cells #[] 44)) A l) := HA.out.below (HB1.out.alloc (by omega) _)
 obtain ⟨i1, p1, n1, d1, t1⟩ := x
 simp only [yy8] at HW1 HX ⊢
 go_enter Tryd.func49, Tryd.ntmps49
 go_wp2_with (at_builtin
              rw [HW1.out]
              refine yy274 rfl (.tmp 8) (.tmp 9) rfl HE.out (by simp) c HA2.out (by simp; omega) (Eq.trans (rfl : _ = Value.slice (some ⟨w.heap.size + 1, 0, none⟩) 0 0) (by rw [hs1]; rfl)) rfl ?_
              rw [List.nil_append]
              intro A' c' w2 hown hb
              have HO := xh hown
              have HB2 : Hid (Below w1.heap.size w1 w2) := ((Below.refl _ _).alloc (Nat.le_refl _) _).trans hb
              obtain ⟨g, cap, hge, hgl, hgs⟩ := hown.form (by omega)
              injection hge with hge _ hcc
              subst hge
              have HG := xh hgl
              have y0 := (HB2.out.cell (p := ⟨w.heap.size, 0, none⟩) (by show w.heap.size < w1.heap.size; omega)).trans (HX.out 0 _ rfl)
              have y1 := (HB2.out.cell (p := ⟨w.heap.size, 1, none⟩) (by show w.heap.size < w1.heap.size; omega)).trans (HX.out 1 _ rfl)
              have y2 := (HB2.out.cell (p := ⟨w.heap.size, 2, none⟩) (by show w.heap.size < w1.heap.size; omega)).trans (HX.out 2 _ rfl)
              have y3 := (HB2.out.cell (p := ⟨w.heap.size, 3, none⟩) (by show w.heap.size < w1.heap.size; omega)).trans (HX.out 3 _ rfl)
              have y4 := (HB2.out.cell (p := ⟨w.heap.size, 4, none⟩) (by show w.heap.size < w1.heap.size; omega)).trans (HX.out 4 _ rfl)
              obtain ⟨⟨_, z0⟩, f0, ⟨_, z1⟩, f1, ⟨_, z2⟩, f2, ⟨_, z3⟩, f3, ⟨_, z4⟩, f4⟩ := yy701 HO.out hk ⟨i1, p1, n1, d1, t1⟩
              clear hown hb hgl hgs hcc)
 go_ret
 exact ⟨⟨_, _, rfl, yy33 (OwnN.put HO.out rfl hk ⟨i1, p1, n1, d1, t1⟩) (by omega)⟩, yy702 (HB1.out.trans (HB2.out.mono (by omega))) (by have := HG.out; omega) (k * 5) ⟨i1, p1, n1, d1, t1⟩⟩
theorem yy191 : Tryd.prog.elem 22 = 44 := by kernel_rfl
theorem yy385 (w : World) : (sizeOf 44).run Tryd.prog w = .ok 5 w := Tryd.sizeOf44 w
def nHigh (A : Option Addr) (c : Nat) : Option Addr := if c = 0 then A else A.map (·.add (0 * 5))
def nLow (A : Option Addr) (k c : Nat) : Option Addr := if c = k then A else A.map (·.add (k * 5))
theorem yy489 (A : Option Addr) (n c k : Nat) (hk : k ≤ c) (w : World) : (Instr.slice 22 (.slice A n c) none (some (.int .i64 (k : Int))) none).run Tryd.prog w = .ok (.slice (nHigh A c) k c) w := by
 rw [run_slice_h (P := Tryd.prog) (w := w) 22 A n c (by rw [yy191]; exact Tryd.underlying22) .i64 (k : Int) (by omega) (by omega), yy191, yy385]
 simp [Result.andThen, sliced, nHigh]
theorem yy607 (A : Option Addr) (n c k : Nat) (hk : k ≤ n) (w : World) : (Instr.slice 22 (.slice A n c) (some (.int .i64 (k : Int))) none none).run Tryd.prog w = .ok (.slice (nLow A k c) (n - k) (c - k)) w := by
 rw [run_slice_l (P := Tryd.prog) (w := w) 22 A n c (by rw [yy191]; exact Tryd.underlying22) .i64 (k : Int) (by omega) (by omega), yy191, yy385]
 simp [Result.andThen, sliced, nLow]
theorem yy275 (l : List NodeV) (k : Nat) : (l.take k).flatMap yy8 = (l.flatMap yy8).take (k * 5) := by
 induction l generalizing k with
 | nil => simp
 | cons y l ih =>
  cases k with
  | zero => simp
  | succ k =>
   have e5 : (k + 1) * 5 = (yy8 y).length + k * 5 := by
    rw [show (yy8 y).length = 5 from rfl]
    omega
   rw [List.take_succ_cons, List.flatMap_cons, List.flatMap_cons, ih, e5, List.take_length_add_append]
theorem yy276 (l : List NodeV) (k : Nat) : (l.drop k).flatMap yy8 = (l.flatMap yy8).drop (k * 5) := by
 induction l generalizing k with
 | nil => simp
 | cons y l ih =>
  cases k with
  | zero => simp
  | succ k =>
   have e5 : (k + 1) * 5 = (yy8 y).length + k * 5 := by
    rw [show (yy8 y).length = 5 from rfl]
    omega
   rw [List.drop_succ_cons, List.flatMap_cons, ih, e5, List.drop_length_add_append]
theorem yy14.high {w : World} {A : Option Addr} {l : List NodeV} (h : yy14 w A l) (c k : Nat) : yy14 w (nHigh A c) (l.take k) := by
 have ht : yy14 w A (l.take k) := by
  rcases h with h | ⟨b, off, rfl, hlt, hc⟩
  ·left; rw [yy275, h]; simp
  ·right
   refine ⟨b, off, rfl, hlt, fun j v hj => hc j v ?_⟩
   rw [yy275, List.getElem?_take] at hj
   split at hj
   ·exact hj
   ·cases hj
 unfold nHigh
 split
 ·exact ht
 ·rcases ht with h | ⟨b, off, rfl, hlt, hc⟩
  ·exact .inl h
  ·have e : (some (⟨b, off, none⟩ : Addr)).map (·.add (0 * 5)) = some ⟨b, off, none⟩ := rfl
   rw [e]
   exact .inr ⟨b, off, rfl, hlt, hc⟩
theorem yy14.low {w : World} {A : Option Addr} {l : List NodeV} (h : yy14 w A l) (c k : Nat) (hc : l.length ≤ c) : yy14 w (nLow A k c) (l.drop k) := by
 unfold nLow
 split
 ·left; rw [List.drop_eq_nil_of_le (by omega)]; rfl
 ·rcases h with h | ⟨b, off, rfl, hlt, hcc⟩
  ·left; rw [yy276, h]; simp
  ·have e : (some (⟨b, off, none⟩ : Addr)).map (·.add (k * 5)) = some ⟨b, off + k * 5, none⟩ := by
    show some ((⟨b, off, none⟩ : Addr).add (k * 5)) = _
    rw [Go.WideShapes.add_plain]
   rw [e]
   right
   refine ⟨b, off + k * 5, rfl, hlt, fun j v hj => ?_⟩
   rw [yy276, List.getElem?_drop] at hj
   rw [Nat.add_assoc]
   exact hcc _ v hj
attribute [irreducible] nHigh nLow
theorem below_drewN {B : Nat} {w x : World} (h : Below B w x) (n : Nat) : Below B w (x.drewN n) := ⟨h.os, h.tape, h.output, h.size, h.block⟩
end Go.Proofs.YtjpjdkdbgjipnaaDoor
namespace Go.Proofs.YtjpjdkdbgjipnaaDoor
def HeadOk (l : List NodeV) (k : Nat) (x : NodeV) : Prop :=
 1 ≤ x.id ∧ x.id ≤ 1099511627776 ∧ (∀ j, j + 1 = k → ∀ y, l[j]? = some y → y.id < x.id) ∧ IsName x.name ∧ rChild l x.parent x.name = x.id ∧ (x.dir = true → x.text = []) ∧ x.text.length ≤ 8000 ∧ validB x.text = true
def UpOk (l : List NodeV) (x : NodeV) : Prop := x.parent = 0 ∨ ∃ q, ∃ hq : q < l.length, rFind l x.parent = some q ∧ l[q].dir = true ∧ yy80 l x.parent x.id = false
def NodeOk (l : List NodeV) (k : Nat) (x : NodeV) : Prop := HeadOk l k x ∧ (cps x.text).length ≤ 2000 ∧ rTotal (l.take (k + 1)) ≤ 10000 ∧ UpOk l x
def SoundN (l : List NodeV) : Prop := l.length ≤ 100 ∧ ∀ (k : Nat) (hk : k < l.length), NodeOk l k l[k]
noncomputable def rSound (l : List NodeV) : Bool := @decide (SoundN l) (Classical.propDecidable _)
theorem yy389 {l : List NodeV} (h : SoundN l) : rSound l = true := by unfold rSound; exact @decide_eq_true _ (Classical.propDecidable _) h
theorem yy348 {l : List NodeV} (h : ¬ SoundN l) : rSound l = false := by unfold rSound; exact @decide_eq_false _ (Classical.propDecidable _) h
noncomputable def headB (l : List NodeV) (k : Nat) (x : NodeV) : Bool := @decide (¬ HeadOk l k x) (Classical.propDecidable _)
theorem yy46 {l : List NodeV} {k : Nat} {x : NodeV} (h : ¬ HeadOk l k x) : headB l k x = true := by unfold headB; exact @decide_eq_true _ (Classical.propDecidable _) h
theorem yy278 {l : List NodeV} {k : Nat} {x : NodeV} (h : HeadOk l k x) : headB l k x = false := by unfold headB; exact @decide_eq_false _ (Classical.propDecidable _) (fun g => g h)
end Go.Proofs.YtjpjdkdbgjipnaaDoor
namespace Go.Proofs.YtjpjdkdbgjipnaaDoor
open Go.RowKit Go.Deep
set_option maxHeartbeats 4000000 in
set_option maxRecDepth 100000 in
theorem yy164 (A B : Option Addr) (ca cb : Nat) (l m : List ActV) (hl : l.length ≤ maxLen) (hm : m.length ≤ maxLen) (hgl : ∀ y ∈ l, y.Good) (hgm : ∀ y ∈ m, y.Good) (w : World) (hA : ActsAt w A l) (hB : ActsAt w B m) :
  Calls Tryd.prog 17 #[.slice A l.length ca, .slice B m.length cb] w fun e w' => e = .returned (.bool (sameAs l m)) ∧ Below w.heap.size w w' := by
 unfold maxLen at hl hm
 have HA := xh hA; clear hA
 have HB := xh hB; clear hB
 obtain ⟨T, HT⟩ : ∃ T, Hid (sameAs l m = T) := ⟨_, xh rfl⟩
 rw [HT.out]
 by_cases hlen : l.length = m.length
 ·rw [← hlen]
  have HLEN := xh hlen
  clear hlen
  go_enter Tryd.func17, Tryd.ntmps17
  go_wp2
  go_loopw [5] (fun i wr => ∃ k : Nat, k ≤ l.length ∧ i = .int .i64 k ∧ Hid ((l.take k).map aKey = (m.take k).map aKey) ∧ Hid (Below w.heap.size w wr)) (fun i _ => l.length - (intOf i).toNat)
  case atStart => exact ⟨0, Nat.zero_le _, rfl, xh rfl, xh (Below.refl _ _)⟩
  case round =>
   obtain ⟨k, hk, rfl, HTK, HBEL⟩ := hrel
   by_cases hlt : k < l.length
   ·have hlt2 : k < m.length := by have := HLEN.out; omega
    have hltI : (k : Int) < (l.length : Int) := by omega
    obtain ⟨b1, o1, rfl, _⟩ := HA.out.form (by omega)
    obtain ⟨b2, o2, rfl, _⟩ := HB.out.form (by omega)
    have HX : Hid (∀ X : World, Below w.heap.size w X → _) := xh (fun X h => (HA.out.below h).at_ hlt)
    have HY : Hid (∀ X : World, Below w.heap.size w X → _) := xh (fun X h => (HB.out.below h).at_ hlt2)
    have HYES : Hid (aKey l[k] = aKey m[k] → (l.take (k + 1)).map aKey = (m.take (k + 1)).map aKey) := xh (fun h => by rw [List.take_succ_eq_append_getElem hlt, List.take_succ_eq_append_getElem hlt2, List.map_append, List.map_append, HTK.out, List.map_singleton, List.map_singleton, h])
    have HNO : Hid (aKey l[k] ≠ aKey m[k] → T = false) := xh (fun h => by
     rw [← HT.out]
     refine yy496 fun e => h ?_
     have e2 := congrArg (fun q => q[k]?) e
     simpa [List.getElem?_map, List.getElem?_eq_getElem hlt, List.getElem?_eq_getElem hlt2] using e2)
    have GS := xh (fun (w' : World) (h : Below w.heap.size w w') => yy202 l[k] m[k] (hgl _ (List.getElem_mem hlt)) (hgm _ (List.getElem_mem hlt2)) w' ((HA.out.below h).2 _ (List.getElem_mem hlt)) ((HB.out.below h).2 _ (List.getElem_mem hlt2)))
    clear hgl hgm
    generalize l[k] = c at HX HYES HNO GS
    generalize m[k] = d at HY HYES HNO GS
    obtain ⟨S, HSS⟩ : ∃ S, Hid (sameA c d = S) := ⟨_, xh rfl⟩
    rw [HSS.out] at GS
    unfold yy1 at GS
    have hb0 := Below.drew HBEL.out
    go_wp2_with fail
    refine wp_region_lit sc10 (by kernel_rfl) (by kernel_rfl) (fun _ _ d _ _ h => by cases d <;> exact h) ?_
    simp only [picked, sc10, xmc, xmn, xgs, xgz, xgd]
    generalize wr.drew = wd at hb0 ⊢
    have HB0 := xh hb0
    clear hb0
    have p0 := fun e : Ext wd => (HX.out e.val (HB0.out.trans (e.property.mono HB0.out.size))).1
    have p1 := fun e : Ext wd => (HX.out e.val (HB0.out.trans (e.property.mono HB0.out.size))).2.1
    have p2 := fun e : Ext wd => (HX.out e.val (HB0.out.trans (e.property.mono HB0.out.size))).2.2.1
    have p3 := fun e : Ext wd => (HX.out e.val (HB0.out.trans (e.property.mono HB0.out.size))).2.2.2.1
    have p4 := fun e : Ext wd => (HX.out e.val (HB0.out.trans (e.property.mono HB0.out.size))).2.2.2.2.1
    have p5 := fun e : Ext wd => (HX.out e.val (HB0.out.trans (e.property.mono HB0.out.size))).2.2.2.2.2
    have q0 := fun e : Ext wd => (HY.out e.val (HB0.out.trans (e.property.mono HB0.out.size))).1
    have q1 := fun e : Ext wd => (HY.out e.val (HB0.out.trans (e.property.mono HB0.out.size))).2.1
    have q2 := fun e : Ext wd => (HY.out e.val (HB0.out.trans (e.property.mono HB0.out.size))).2.2.1
    have q3 := fun e : Ext wd => (HY.out e.val (HB0.out.trans (e.property.mono HB0.out.size))).2.2.2.1
    have q4 := fun e : Ext wd => (HY.out e.val (HB0.out.trans (e.property.mono HB0.out.size))).2.2.2.2.1
    have q5 := fun e : Ext wd => (HY.out e.val (HB0.out.trans (e.property.mono HB0.out.size))).2.2.2.2.2
    repeat (refine yy0 (by rfl) (fun K hK => ?_); go_big_quiet_op; refine hK _ ?_; clear hK K)
    clear p0 p1 p2 p3 p4 p5 q0 q1 q2 q3 q4 q5
    refine yy4 (by rfl) (fun K hK => ?_)
    go_simp
    refine (GS.out _ HB0.out).mono ?_
    rintro e x1 ⟨rfl, hb⟩
    have HB1 := xh (HB0.out.trans (hb.mono HB0.out.size))
    refine hK _ _ hb ?_
    clear hK K hb GS
    repeat (refine yy0 (by rfl) (fun K hK => ?_); go_big_quiet_op; refine hK _ ?_; clear hK K)
    refine yy13 ?_
    cases S with
    | true =>
     have HE : Hid (aKey c = aKey d) := by
      show _
      by_cases h : aKey c = aKey d
      ·exact xh h
      ·have := HSS.out
       rw [yy73 h] at this
       cases this
     have HR := xh (HYES.out HE.out)
     clear HYES HNO
     go_wp2
     go_roundw
     case rel => exact ⟨k + 1, by omega, by go_num, HR, HB1⟩
     case measure => simp [intOf]; omega
    | false =>
     have HF := xh (HNO.out fun h => by
      have := HSS.out
      rw [yy192 h] at this
      cases this)
     go_wp2
     go_ret
     exact ⟨by rw [HF.out]; rfl, HB1.out⟩
   ·have HF : Hid (T = true) := by
     show T = true
     rw [← HT.out]
     apply yy279
     have := HTK.out
     rwa [List.take_of_length_le (by omega), List.take_of_length_le (by have := HLEN.out; omega)] at this
    go_wp2
    go_ret
    exact ⟨by rw [HF.out]; rfl, HBEL.out⟩
 ·have HF : Hid (T = false) := by show T = false; rw [← HT.out]; exact yy496 fun h => hlen (by have := congrArg List.length h; simpa using this)
  have g0 : ((l.length : Int) == (m.length : Int)) = false := xn (by omega)
  have g0' : ((l.length : Int) != (m.length : Int)) = true := bne_iff_ne.2 (by omega)
  clear hlen
  go_enter Tryd.func17, Tryd.ntmps17
  go_wp2
  go_ret
  exact ⟨by rw [HF.out]; rfl, Below.refl _ _⟩
end Go.Proofs.YtjpjdkdbgjipnaaDoor
