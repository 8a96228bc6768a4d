/- What acts did to whom, told group by group of their IDs. No condition. (Merged of 4 texts.) -/
import Derived.Test.YtjpjdkdbgjipnaaDoorV45
import Derived.Laws.IdiomStrings
import Derived.Laws.Cover3
import Derived.Test.YtjpjdkdbgjipnaaDoorV24
import Derived.Test.YtjpjdkdbgjipnaaDoorV44
import Derived.Test.YtjpjdkdbgjipnaaDoorV6
import Derived.Test.YtjpjdkdbgjipnaaDoorV25
import Derived.Test.YtjpjdkdbgjipnaaDoorShelf
import Derived.Test.YtjpjdkdbgjipnaaDoorV43
import Derived.Test.YtjpjdkdbgjipnaaDoorV30
import Derived.Test.YtjpjdkdbgjipnaaDoorV21
namespace Go.Proofs.YtjpjdkdbgjipnaaDoor
open Go.RowKit Go.Deep
theorem yy343 (l : List Nat) (hb : ∀ x ∈ l, x < 256) (w : World) : ∃ cap w', (convert 9 88 (.string (bstr l))).run Tryd.prog w = .ok (.slice (some ⟨w.heap.size, 0, none⟩) l.length cap) w' ∧
  BytesAt w' (some ⟨w.heap.size, 0, none⟩) l ∧ Below w.heap.size w w' ∧ l.length ≤ cap := by
 have h := run_bytes_of_string (P := Tryd.prog) w 9 88 5 (bstr l) Tryd.underlying9 Tryd.underlying88 Tryd.underlying5
 rw [bstr_size] at h
 refine ⟨_, _, h, ?_, ?_, grownCap_ge _ _ _ _⟩
 ·refine BytesAt.lit (w := w.drew) (fun j x hj => ?_) rfl
  have hjl : j < l.length := (List.getElem?_eq_some_iff.1 hj).1
  have hx := hb x (List.mem_of_getElem? hj)
  have h1 : (bstr l).data[j]? = some (UInt8.ofNat x) := by
   rw [← Array.getElem?_toList, yy85, List.getElem?_map, hj]; rfl
  obtain ⟨hd, h2⟩ := Array.getElem?_eq_some_iff.1 h1
  rw [bytesRow_at _ _ j hd, h2]
  simp
  omega
 ·exact ((Below.refl _ _).drew).alloc (Nat.le_refl _) _
theorem yy688 (l : List Nat) (hb : ∀ x ∈ l, x < 256) (w : World) : ∃ cap w', (convert 9 88 (.string (bstr l))).run Tryd.prog w = .ok (.slice (some ⟨w.heap.size, 0, none⟩) l.length cap) w' ∧
  BytesAt w' (some ⟨w.heap.size, 0, none⟩) l ∧ Below w.heap.size w w' := by
 obtain ⟨cap, w', h1, h2, h3, _⟩ := yy343 l hb w
 exact ⟨cap, w', h1, h2, h3⟩
set_option maxRecDepth 100000 in
theorem yy515 (c : Nat) (w : World) :
  Calls Tryd.prog 90 #[.int .u8 (c : Int)] w fun e w' => e = .returned (.bool (decide (okByte c))) ∧ w = w' := by
 by_cases h : okByte c
 ·rw [decide_eq_true h]
  rw [yy96] at h
  rcases h with ⟨q1, q2⟩ | ⟨q1, q2⟩ | rfl | rfl | rfl
  ·have r1 : (97 : Int) ≤ (c : Int) := by omega
   have r2 : (c : Int) ≤ 122 := by omega
   go_enter Tryd.func90, Tryd.ntmps90
   go_wp2
   go_ret
   exact ⟨rfl, rfl⟩
  ·have r0 : ¬ 97 ≤ c := by omega
   have r1 : 48 ≤ c := by omega
   have r2 : c ≤ 57 := by omega
   go_enter Tryd.func90, Tryd.ntmps90
   go_wp2
   go_ret
   exact ⟨rfl, rfl⟩
  ·go_enter Tryd.func90, Tryd.ntmps90
   go_wp2
   go_ret
   exact ⟨rfl, rfl⟩
  ·go_enter Tryd.func90, Tryd.ntmps90
   go_wp2
   go_ret
   exact ⟨rfl, rfl⟩
  ·go_enter Tryd.func90, Tryd.ntmps90
   go_wp2
   go_ret
   exact ⟨rfl, rfl⟩
 ·rw [decide_eq_false h]
  rw [yy96] at h
  have e1 : ((c : Int) == 46) = false := xn (by omega)
  have e2 : ((c : Int) == 45) = false := xn (by omega)
  have e3 : ((c : Int) == 95) = false := xn (by omega)
  by_cases h1 : 97 ≤ c
  ·have h2 : decide ((c : Int) ≤ 122) = false := decide_eq_false (by omega)
   have h3 : 48 ≤ c := by omega
   have h4 : decide ((c : Int) ≤ 57) = false := decide_eq_false (by omega)
   clear h
   go_enter Tryd.func90, Tryd.ntmps90
   go_wp2
   go_ret
   exact ⟨rfl, rfl⟩
  ·by_cases h3 : 48 ≤ c
   ·have h4 : decide ((c : Int) ≤ 57) = false := decide_eq_false (by omega)
    clear h
    go_enter Tryd.func90, Tryd.ntmps90
    go_wp2
    go_ret
    exact ⟨rfl, rfl⟩
   ·clear h
    go_enter Tryd.func90, Tryd.ntmps90
    go_wp2
    go_ret
    exact ⟨rfl, rfl⟩
instance (id : Int) : Decidable (IdOk id) := by unfold IdOk; infer_instance
set_option maxHeartbeats 2000000 in
set_option maxRecDepth 100000 in
theorem yy689 (s : List Nat) (hb : ∀ x ∈ s, x < 256) (hl : s.length ≤ maxLen) (w : World) :
  Calls Tryd.prog 75 #[.string (bstr s)] w fun e w' => e = .returned (.bool (rName s)) ∧ Below w.heap.size w w' := by
 have hsz := bstr_size s
 unfold maxLen at hl
 have HBB := xh hb
 have GC := xh (fun w => yy688 s hb w)
 have GL := xh (fun c w => yy515 c w)
 obtain ⟨T, HT⟩ : ∃ T, Hid (rName s = T) := ⟨_, xh rfl⟩
 have HNO : Hid (¬ IsName s → T = false) := fun h => by rw [← HT.out]; exact yy484 h
 have HYES : Hid (IsName s → T = true) := fun h => by rw [← HT.out]; exact yy377 h
 rw [HT.out]
 clear HT
 by_cases h0 : s.length = 0
 ·have HF : Hid (T = false) := HNO.out fun h => by rw [yy37] at h; omega
  rw [h0] at hsz
  clear hb
  go_enter Tryd.func75, Tryd.ntmps75
  go_wp2
  go_ret
  exact ⟨by rw [HF.out]; rfl, Below.refl _ _⟩
 by_cases h20 : 20 < s.length
 ·have HF : Hid (T = false) := HNO.out fun h => by rw [yy37] at h; omega
  clear hb
  go_enter Tryd.func75, Tryd.ntmps75
  go_wp2
  go_ret
  exact ⟨by rw [HF.out]; rfl, Below.refl _ _⟩
 have e1 := yy87 hb (t := [46]) (by simp)
 have e2 := yy87 hb (t := [46, 46]) (by simp)
 rw [show (bstr [46]).toList = [46] by show ByteArray.toList { data := #[46] } = [46]; first | (decide +kernel) | simp | simp [go_sem]] at e1
 rw [show (bstr [46, 46]).toList = [46, 46] by show ByteArray.toList { data := #[46, 46] } = [46, 46]; first | (decide +kernel) | simp | simp [go_sem]] at e2
 have g0 : ¬ (s.length : Int) < 1 := by omega
 have g20 : ¬ (20 : Int) < (s.length : Int) := by omega
 by_cases d1 : s = [46]
 ·have HF : Hid (T = false) := HNO.out fun h => by rw [yy37] at h; exact h.2.2.1 d1
  rw [decide_eq_true d1] at e1
  clear hb e2 d1
  go_enter Tryd.func75, Tryd.ntmps75
  go_wp2
  go_ret
  exact ⟨by rw [HF.out]; rfl, Below.refl _ _⟩
 rw [decide_eq_false d1] at e1
 by_cases d2 : s = [46, 46]
 ·have HF : Hid (T = false) := HNO.out fun h => by rw [yy37] at h; exact h.2.2.2.1 d2
  rw [decide_eq_true d2] at e2
  clear hb d1 d2
  go_enter Tryd.func75, Tryd.ntmps75
  go_wp2
  go_ret
  exact ⟨by rw [HF.out]; rfl, Below.refl _ _⟩
 rw [decide_eq_false d2] at e2
 have HD : Hid (s ≠ [46] ∧ s ≠ [46, 46]) := ⟨d1, d2⟩
 have h20' : s.length ≤ 20 := by omega
 have h1' : 1 ≤ s.length := by omega
 clear hb d1 d2 h20 h0
 obtain ⟨cap, wc, hcv, hat, hbc⟩ := GC.out w
 have HAT := xh hat
 have HBC := xh hbc
 clear hat hbc
 go_enter Tryd.func75, Tryd.ntmps75
 go_wp2
 go_loopw [2, 4, 24] (fun r s4 i wr => ∃ k : Nat, k ≤ s.length ∧ r = .bool false ∧ s4 = s4 ∧ i = .int .i64 (k : Int) ∧ wr = wc ∧ Hid (∀ (j x : Nat), j < k → s[j]? = some x → okByte x)) (fun _ _ i _ => s.length - (intOf i).toNat)
 case atStart => exact ⟨0, Nat.zero_le _, rfl, rfl, rfl, rfl, xh (fun j x h => by omega)⟩
 case round =>
  obtain ⟨k, hk, rfl, _, rfl, rfl, HOK⟩ := hrel
  by_cases hlt : k < s.length
  ·have hltI : (k : Int) < (s.length : Int) := by omega
   have hby := HAT.out.cell hlt
   rw [Nat.zero_add] at hby
   have hx : s[k]? = some s[k] := List.getElem?_eq_getElem hlt
   have GK := xh (GL.out s[k] wr)
   generalize s[k] = c at hby hx GK
   have HX := xh hx
   clear hx
   by_cases hok : okByte c
   ·have HOK2 : Hid (∀ (j x : Nat), j < k + 1 → s[j]? = some x → okByte x) := by
     intro j x hj hjx
     rcases Nat.lt_or_ge j k with g | g
     ·exact HOK.out j x g hjx
     ·obtain rfl : j = k := by omega
      rw [HX.out] at hjx
      obtain rfl := Option.some.inj hjx
      exact hok
    rw [decide_eq_true hok] at GK
    clear hok
    go_wp2_with fail
    refine (GK.out).mono ?_
    rintro e w' ⟨rfl, rfl⟩
    go_wp2
    go_roundw
    case rel => exact ⟨k + 1, by omega, rfl, trivial, by go_num, trivial, HOK2⟩
    case measure => simp [intOf]; omega
   ·have HF : Hid (T = false) := HNO.out fun h => by
     rw [yy37] at h
     exact hok (h.2.2.2.2 c (List.mem_of_getElem? HX.out))
    rw [decide_eq_false hok] at GK
    clear hok
    go_wp2_with fail
    refine (GK.out).mono ?_
    rintro e w' ⟨rfl, rfl⟩
    go_wp2
    go_ret
    exact ⟨by rw [HF.out]; rfl, HBC.out⟩
  ·have HF : Hid (T = true) := HYES.out (by
    rw [yy37]
    refine ⟨h1', h20', HD.out.1, HD.out.2, fun x hx => ?_⟩
    obtain ⟨j, hj⟩ := List.getElem?_of_mem hx
    exact HOK.out j x (by have := (List.getElem?_eq_some_iff.1 hj).1; omega) hj)
   have hltI : ¬ (k : Int) < (s.length : Int) := by omega
   go_wp2
   go_ret
   exact ⟨by rw [HF.out]; rfl, HBC.out⟩
open Go.Sort (SortedIn PermIn grow putRow mapBlock grow_grow alloc_eq_grow putRowK HoldsK size_flatK get_flatK)
def keyA (a : ActV) : Int := a.id
def encA (x : ActV × Nat) : List Value := yy0 x.1
theorem yy443 (x : ActV × Nat) : (encA x).length = 6 := rfl
theorem yy594 (x y : ActV × Nat) : Lib.compareInt x.1.id y.1.id = cf keyA x y := by
 unfold Lib.compareInt cf keyA
 rfl
set_option maxRecDepth 100000 in
theorem yy595 (x y : ActV × Nat) (W : World) : Calls Tryd.prog 61 #[.agg (encA x).toArray, .agg (encA y).toArray] W fun e w' => e = .returned (.int .i64 (cf keyA x y)) ∧ ∃ q os', w' = grow (W.drewN q) os' := by
 have hcon := xh (fun W' => Tryd.cmp_Compare_int x.1.id y.1.id W')
 rw [yy594] at hcon
 generalize cf keyA x y = r at hcon
 unfold encA yy0
 go_enter Tryd.func61, Tryd.ntmps61
 go_wp2_with fail
 refine (hcon.out _).mono ?_
 rintro e w' ⟨rfl, rfl⟩
 go_wp2
 go_ret
 exact ⟨rfl, 0, _, by rw [alloc_eq_grow, alloc_eq_grow, grow_grow]; rfl⟩
set_option maxRecDepth 100000 in
theorem yy444 (p : Option Addr) (c : Nat) (fv : Value) (w : World) :
  Calls Tryd.prog 99 #[.slice p 0 c, .int .i64 0, .int .i64 0, fv] w fun e w' => e = .returned (.tuple #[]) ∧ w' = w := by
 go_enter Tryd.func99, Tryd.ntmps99
 go_wp2
 refine wp_loop_rounds 1 ?_
 rw [rounds_succ]
 go_wp2
 go_end0
 exact ⟨rfl, rfl⟩
set_option maxRecDepth 100000 in
theorem yy445 (p : Option Addr) (c : Nat) (fv : Value) (w : World) :
  Calls Tryd.prog 83 #[.slice p 0 c, .int .i64 0, fv] w fun e w' => e = .returned (.tuple #[]) ∧ w' = w := by
 have e68 : ∀ args w, (callFunc 99 args).run Tryd.prog w = .ok (.enter 99 args) w := enters_of Tryd.func99 (by kernel_rfl) rfl
 go_enter Tryd.func83, Tryd.ntmps83
 go_wp2
 refine wp_loop_rounds 1 ?_
 rw [rounds_succ]
 go_wp2_with fail
 refine (yy444 p c fv _).mono ?_
 rintro e w' ⟨rfl, rfl⟩
 go_wp2
 refine wp_loop_rounds 1 ?_
 rw [rounds_succ]
 go_wp2
 (try simp only [Exit.inBlock, Exit.then])
 refine bodyPost_end (v := .tuple #[]) ?_ ?_ ?_
 case refine_1 => exact results_none rfl _ _ _
 case refine_2 => rfl
 exact ⟨rfl, rfl⟩
structure Ranged (l m : List ActV) : Prop where
 len : m.length = l.length
 perm : m.Perm l
 rise : m.Pairwise fun x y => x.id ≤ y.id
 same : ∀ i : Int, m.filter (fun x => decide (x.id = i)) = l.filter (fun x => decide (x.id = i))
theorem yy526 : Ranged [] [] := ⟨rfl, List.Perm.refl _, List.Pairwise.nil, fun _ => rfl⟩
theorem yy446 {B : Nat} (w : World) (blk off n : Nat) (d : Array (ActV × Nat)) (os : Array Obj) (hB : B ≤ blk) (hw : B ≤ w.heap.size) : Below B w (sortWorldK encA 6 w blk off n d os) := by
 unfold sortWorldK putRowK putRow mapBlock grow Go.Sort.ahead
 refine ⟨rfl, rfl, rfl, by simp, fun k hk => ?_⟩
 show ((w.heap.modify blk _) ++ os)[k]? = w.heap[k]?
 rw [Array.getElem?_append_left (by simp; omega), Array.getElem?_modify, if_neg (by omega)]
theorem yy527 {w : World} {g : Nat} {d : Array (ActV × Nat)} (hg : g < w.heap.size) (h : HoldsK encA 6 w g 0 d) : ActRow w (some ⟨g, 0, none⟩) (d.toList.map (·.1)) := by
 refine .inr ⟨g, 0, rfl, hg, fun j v hj => ?_⟩
 obtain ⟨i, f, hi, hf, rfl, hv⟩ := yy611 yy15 (by omega) hj
 have hi' : i < d.size := by simpa using hi
 have := (h.cell hi' hf).1
 rw [Nat.zero_add] at this
 rw [Nat.zero_add, this]
 rw [Array.getElem!_eq_getD, Array.getD, dif_pos hi']
 have e : (d.toList.map (·.1))[i] = d[i].1 := by simp
 rw [e] at hv
 show some ((yy0 d[i].1)[f]!) = some v
 rw [List.getElem!_eq_getElem?_getD, hv]
 rfl
theorem yy528 {w : World} {B c : Nat} {A : Option Addr} {l : List ActV} (ho : OwnA w B A c l) (h0 : l ≠ []) : ∃ g, A = some ⟨g, 0, none⟩ ∧ B ≤ g ∧ g < w.heap.size ∧ HoldsK encA 6 w g 0 l.zipIdx.toArray := by
 have hcells := ho.at_
 rcases ho.2 with ⟨_, h2⟩ | ⟨g, cap, cur, hv, hBg, hh, h3, h4, h5⟩
 ·exact absurd (List.length_eq_zero_iff.1 h2) h0
 ·injection hv with hv1 hv2 hv3
  subst hv1
  have hlt : g < w.heap.size := by
   rcases Nat.lt_or_ge g w.heap.size with h | h
   ·exact h
   ·rw [Array.getElem?_eq_none h] at hh; cases hh
  have hrow : w.rowIs g 46 cur.size (fun i => cur.getD i undef) := ⟨cur, hh, rfl, fun i hi => by simp [hi]⟩
  refine ⟨g, rfl, hBg, hlt, fun j hj => ?_⟩
  rw [size_flatK] at hj
  have hj' : j < l.length * 6 := by simpa using hj
  have hi : j / 6 < l.length := by omega
  have hf : j % 6 < 6 := Nat.mod_lt _ (by omega)
  have hjj : j / 6 * 6 + j % 6 = j := by omega
  refine ⟨?_, hrow.frozen _⟩
  rw [get_flatK _ _ _ _ hj]
  have e1 : (l.zipIdx.toArray[j / 6]!).1 = l[j / 6] := by simp [hi]
  have hl5 : j % 6 < (yy0 l[j / 6]).length := by rw [yy15]; exact hf
  unfold encA
  rw [e1]
  refine (yy4.cell hcells (j := j) ?_)
  have hfg := flat_get yy0 6 yy15 l (j / 6) hi (j % 6) hf
  rw [hjj] at hfg
  rw [hfg, List.getElem?_eq_getElem hl5]
  show some _ = some (id _)
  rw [id, List.getElem!_eq_getElem?_getD, List.getElem?_eq_getElem hl5]
  rfl
set_option maxRecDepth 100000 in
theorem yy263 {B : Nat} (A : Option Addr) (c : Nat) (l : List ActV) (hl : l.length ≤ 1048576) (w : World) (hB : B ≤ w.heap.size) (ho : OwnA w B A c l) :
  Calls Tryd.prog 60 #[.slice A l.length c, .func (.func 61) #[] #[]] w fun e w' => e = .returned (.tuple #[]) ∧ ∃ m, Ranged l m ∧ ActRow w' A m ∧ Below B w w' := by
 have hcon : Calls Tryd.prog 83 #[.slice A l.length c, .int .i64 (l.length : Int), .func (.func 61) #[] #[]] w fun e w' => e = .returned (.tuple #[]) ∧ ∃ m, Ranged l m ∧ ActRow w' A m ∧ Below B w w' := by
  by_cases h0 : l = []
  ·subst h0
   exact (yy445 A c _ w).mono fun e w' ⟨h1, h2⟩ => ⟨h1, [], yy526, .inl rfl, by rw [h2]; exact Below.refl _ _⟩
  ·obtain ⟨g, rfl, hBg, hg, hH⟩ := yy528 ho h0
   have eg : ∀ args w, (callFunc 61 args).run Tryd.prog w = .ok (.enter 61 args) w := enters_of Tryd.func61 (by kernel_rfl) rfl
   have hz : l.zipIdx.toArray.size = l.length := by simp
   have R : RowK encA 6 w g 0 l.zipIdx.toArray := ⟨yy443, fun x v hv => yy340 [x.1] v (by simpa [encA] using hv), hH, hg⟩
   have h1 := yy350 keyA R 61 #[] c l.length hz (fun p hp => by simp [hp]) eg (fun m os dk _ x y => yy595 x y _) (by omega)
   refine h1.mono ?_
   rintro e w' ⟨he, d', hS, hp, hs⟩
   obtain ⟨m, hm, hlen, hperm, hrise, hsame⟩ := yy697 (key := keyA) rfl hp hs
   refine ⟨he, m, ⟨hlen, hperm, hrise, hsame⟩, ?_, ?_⟩
   ·rw [hm]
    exact yy527 (hS.lt hg) (hS.holds hg hH (by rw [hp.1]))
   ·obtain ⟨n, os, rfl⟩ := hS
    exact yy446 w g 0 n d' os hBg hB
 have HC := xh hcon
 clear hcon
 go_enter Tryd.func60, Tryd.ntmps60
 go_wp2_with fail
 refine (HC.out).mono ?_
 rintro e w' ⟨rfl, h⟩
 have H := xh h
 clear h
 go_wp2
 go_end0
 exact ⟨rfl, H.out⟩
theorem yy351 (A : Option Addr) (n c : Nat) (w : World) : (binOp .eql 23 (.slice A n c) (.slice none 0 0)).run Tryd.prog w = .ok (.bool A.isNone) w := by
 simp only [binOp]
 simp [run_equal_slice_nil w 23 46 A n c Tryd.underlying23]
set_option maxRecDepth 100000 in
theorem yy529 (A : Option Addr) (l : List ActV) (c : Nat) (hl : l.length ≤ 1048576) (w : World) (h : ActRow w A l) :
  Calls Tryd.prog 59 #[.slice A l.length c] w fun e w' => (∃ A' c', e = .returned (.slice A' l.length c') ∧ OwnA w' w.heap.size A' c' l) ∧ Below w.heap.size w w' := by
 have H := xh h; clear h
 have hq := fun (A : Option Addr) (n : Nat) (w : World) => yy351 A n c w
 cases A with
 | none =>
  have e : l = [] := by
   cases l with
   | nil => rfl
   | cons y l =>
    obtain ⟨b, off, e, _⟩ := H.out.form (by simp)
    cases e
  subst e
  go_enter Tryd.func59, Tryd.ntmps59
  go_wp2
  go_ret
  exact ⟨⟨none, 0, rfl, OwnA.nil _ _⟩, Below.refl _ _⟩
 | some a =>
  go_enter Tryd.func59, Tryd.ntmps59
  go_wp2_with (at_builtin
               refine yy214 rfl (.tmp 5) (.tmp 6) rfl (B := w.heap.size) (out := []) (m := l) (OwnA.empty w (Nat.le_refl _)) (by simp) c (H.out.below ((Below.refl _ _).alloc (Nat.le_refl _) _)) (by simp; omega) rfl rfl ?_
               intro A1 c1 w1 hown hbel
               have HO1 := xh hown
               have HB1 := xh (((Below.refl w.heap.size w).alloc (Nat.le_refl _) (Obj.cells #[] 46)).trans hbel)
               clear hown hbel)
  go_ret
  have h1 := HO1.out
  rw [List.nil_append] at h1
  exact ⟨⟨A1, c1, rfl, h1⟩, HB1.out⟩
set_option maxRecDepth 100000 in
theorem yy447 (A : Option Addr) (c : Nat) (l : List ActV) (hl : l.length ≤ 1048576) (w : World) (hA : ActsAt w A l) :
  Calls Tryd.prog 39 #[.slice A l.length c] w fun e w' => (∃ A' c' m, e = .returned (.slice A' (List.length m) c') ∧ Ranged l m ∧ ActRow w' A' m ∧ m.length ≤ c' ∧ ∀ b off q, A' = some ⟨b, off, q⟩ → w.heap.size ≤ b ∧ b < w'.heap.size) ∧ Below w.heap.size w w' := by
 have GC := xh (yy529 A l c hl w hA.1)
 have GS := xh (fun (A1 : Option Addr) (c1 : Nat) (w1 : World) (hB : w.heap.size ≤ w1.heap.size) (ho : OwnA w1 w.heap.size A1 c1 l) => yy263 A1 c1 l hl w1 hB ho)
 clear hA
 go_enter Tryd.func39, Tryd.ntmps39
 go_wp2_with fail
 refine (GC.out).mono ?_
 rintro e w1 ⟨⟨A1, c1, rfl, hown⟩, hb1⟩
 have HCAP := xh hown.cap
 have HFAR : Hid (∀ b off q, A1 = some ⟨b, off, q⟩ → w.heap.size ≤ b ∧ b < w1.heap.size) := xh (by
  rintro b off q rfl
  rcases hown.2 with ⟨h1, _⟩ | ⟨g, cap, cur, h1, h2, h3, _⟩
  ·injection h1 with h1
   cases h1
  ·injection h1 with h1
   injection h1 with h1
   injection h1 with h1
   rw [h1]
   refine ⟨h2, ?_⟩
   rcases Nat.lt_or_ge g w1.heap.size with h | h
   ·exact h
   ·rw [Array.getElem?_eq_none h] at h3; cases h3)
 have GSS := xh (GS.out A1 c1 w1 hb1.size hown)
 have HB1 := xh hb1
 clear hown hb1
 go_wp2_with fail
 refine (GSS.out).mono ?_
 rintro e w2 ⟨rfl, m, hm, hat, hb2⟩
 have HM := xh hm
 have HAT := xh hat
 have HB2 := xh (HB1.out.trans hb2)
 have HSZ := xh hb2.size
 clear hm hat hb2
 obtain ⟨n, hn⟩ : ∃ n, l.length = n := ⟨_, rfl⟩
 rw [hn] at HCAP ⊢
 go_wp2
 go_ret
 refine ⟨⟨A1, c1, m, by rw [HM.out.len, hn]; rfl, HM.out, HAT.out, by rw [HM.out.len, hn]; exact HCAP.out, fun b off q e => ⟨(HFAR.out b off q e).1, Nat.lt_of_lt_of_le (HFAR.out b off q e).2 HSZ.out⟩⟩, HB2.out⟩
end Go.Proofs.YtjpjdkdbgjipnaaDoor
namespace Go.Proofs.YtjpjdkdbgjipnaaDoor
theorem yy166 {x : OneK} {a : ActV} (h : a.id ≠ x.id) : yy70 x a = x := by
 unfold yy70
 rw [if_pos h]
theorem yy127 : ∀ (r : List ActV) (x : OneK), (∀ a ∈ r, a.id ≠ x.id) → r.foldl yy70 x = x
 | [], _, _ => rfl
 | a :: r, x, h => by
  rw [List.foldl_cons, yy166 (h a (List.mem_cons_self ..))]
  exact yy127 r x fun b hb => h b (List.mem_cons_of_mem _ hb)
theorem yy448 {p r : List ActV} {i : Int} (h : ∀ a ∈ p, a.id ≠ i) : effOne (p ++ r) i = effOne r i := by
 unfold effOne
 rw [List.foldl_append, yy127 p (oneZ i) h]
theorem yy352 {p r : List ActV} {i : Int} (h : ∀ a ∈ r, a.id ≠ i) : effOne (p ++ r) i = effOne p i := by
 have e := yy375 p i
 unfold effOne at e ⊢
 rw [List.foldl_append]
 exact yy127 r _ fun a ha => by rw [e]; exact h a ha
theorem yy88 (i : Int) : ∀ (l : List ActV) (x : OneK), x.id = i → l.foldl yy70 x = (l.filter fun a => decide (a.id = i)).foldl yy70 x
 | [], _, _ => rfl
 | a :: l, x, h => by
  rw [List.foldl_cons, List.filter_cons]
  by_cases e : a.id = i
  ·rw [decide_eq_true e, if_pos rfl, List.foldl_cons]
   exact yy88 i l _ (by rw [yy71]; exact h)
  ·rw [decide_eq_false e, if_neg (by decide), yy166 (by rw [h]; exact e)]
   exact yy88 i l x h
theorem yy167 (l : List ActV) (i : Int) : effOne l i = effOne (l.filter fun a => decide (a.id = i)) i := yy88 i l _ rfl
theorem yy596 {p run : List ActV} {i : Int} (hp : ∀ a ∈ p, a.id < i) (hr : ∀ a ∈ run, a.id = i) (h0 : run ≠ []) : eff (p ++ run) = eff p ++ [effOne run i] := by
 have hids : effIds (p ++ run) = effIds p ++ [i] := by
  refine yy324 (yy115 _) ?_ fun y => ?_
  ·refine List.pairwise_append.2 ⟨yy115 p, List.pairwise_singleton .., fun a ha b hb => ?_⟩
   rw [List.mem_singleton.1 hb]
   obtain ⟨c, hc, rfl⟩ := yy80.1 ha
   exact hp c hc
  ·rw [yy80, List.mem_append, yy80, List.mem_singleton]
   constructor
   ·rintro ⟨a, ha, rfl⟩
    rcases List.mem_append.1 ha with ha | ha
    ·exact .inl ⟨a, ha, rfl⟩
    ·exact .inr (hr a ha)
   ·rintro (⟨a, ha, rfl⟩ | rfl)
    ·exact ⟨a, List.mem_append.2 (.inl ha), rfl⟩
    ·obtain ⟨a, ha⟩ := List.exists_mem_of_ne_nil _ h0
     exact ⟨a, List.mem_append.2 (.inr ha), hr a ha⟩
 unfold eff
 rw [hids, List.map_append]
 have e1 : (effIds p).map (effOne (p ++ run)) = (effIds p).map (effOne p) := List.map_congr_left fun j hj => by
  obtain ⟨c, hc, rfl⟩ := yy80.1 hj
  refine yy352 fun a ha e => ?_
  have h1 := hr a ha
  have h2 := hp c hc
  omega
 have e2 : effOne (p ++ run) i = effOne run i := yy448 fun a ha => by have := hp a ha; omega
 rw [e1, List.map_singleton, e2]
theorem yy530 {l m : List ActV} (h : Ranged l m) : eff m = eff l := by
 have hids : effIds m = effIds l := yy324 (yy115 _) (yy115 _) fun y => by
  rw [yy80, yy80]
  constructor
  ·rintro ⟨a, ha, e⟩; exact ⟨a, h.perm.mem_iff.1 ha, e⟩
  ·rintro ⟨a, ha, e⟩; exact ⟨a, h.perm.mem_iff.2 ha, e⟩
 unfold eff
 rw [hids]
 exact List.map_congr_left fun i _ => by rw [yy167 m, yy167 l, h.same]
end Go.Proofs.YtjpjdkdbgjipnaaDoor
