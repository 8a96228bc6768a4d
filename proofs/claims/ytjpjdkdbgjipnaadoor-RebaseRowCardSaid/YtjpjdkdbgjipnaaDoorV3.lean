/- The contract of alike.Sum, which the statements lean on. Condition: its numbers are not negative. (Merged of 3 texts.) -/
import Derived.Test.YtjpjdkdbgjipnaaDoorV1
import Derived.Test.YtjpjdkdbgjipnaaDoorV28
import Derived.WalkMore
import Derived.Test.YtjpjdkdbgjipnaaDoorV5
namespace Go.Proofs.YtjpjdkdbgjipnaaDoor
open Go.RowKit
set_option maxRecDepth 100000 in
theorem yy474 (n : Int) (h : 0 < n ∧ n ≤ 1114111 ∧ (n < 55296 ∨ 57343 < n)) (w : World) :
  Calls Tryd.prog 110 #[.int .i64 n] w fun e w' => e = .returned (.bool true) ∧ w = w' := by
 obtain ⟨h1, h2, h3⟩ := h
 have H3 := xh h3; clear h3
 by_cases hs : (55296 ≤ n)
 ·have hs2 : ¬ n ≤ 57343 := by have := H3.out; omega
  go_enter Tryd.func110, Tryd.ntmps110
  go_wp2
  go_ret
  exact ⟨rfl, rfl⟩
 ·go_enter Tryd.func110, Tryd.ntmps110
  go_wp2
  go_ret
  exact ⟨rfl, rfl⟩
set_option maxRecDepth 100000 in
theorem yy553 (n : Int) (h : n ≤ 0 ∨ 1114111 < n ∨ (55296 ≤ n ∧ n ≤ 57343)) (w : World) :
  Calls Tryd.prog 110 #[.int .i64 n] w fun e w' => e = .returned (.bool false) ∧ w = w' := by
 have H3 := xh h; clear h
 by_cases h1 : 0 < n
 ·by_cases h2 : n ≤ 1114111
  ·have hs : 55296 ≤ n := by have := H3.out; omega
   have hs2 : n ≤ 57343 := by have := H3.out; omega
   go_enter Tryd.func110, Tryd.ntmps110
   go_wp2
   go_ret
   exact ⟨rfl, rfl⟩
  ·have hs : 55296 ≤ n := by omega
   have hs2 : ¬ n ≤ 57343 := by omega
   go_enter Tryd.func110, Tryd.ntmps110
   go_wp2
   go_ret
   exact ⟨rfl, rfl⟩
 ·have hs : ¬ 55296 ≤ n := by omega
  go_enter Tryd.func110, Tryd.ntmps110
  go_wp2
  go_ret
  exact ⟨rfl, rfl⟩
theorem yy475 {v : Nat} (h : May v) (w : World) : Calls Tryd.prog 110 #[.int .i64 (v : Int)] w fun e w' => e = .returned (.bool true) ∧ w = w' :=
 yy474 v (by obtain ⟨h1, h2, h3⟩ := h; omega) w
theorem yy476 {v : Nat} (h : ¬ May v) (w : World) : Calls Tryd.prog 110 #[.int .i64 (v : Int)] w fun e w' => e = .returned (.bool false) ∧ w = w' :=
 yy553 v (by unfold May at h; omega) w
def Fr (a : Act) (s sh : Value) (at_ : Nat) (p le lf : Value) : Prop :=
 a.defers = [] ∧ a.tmps.size = 82 ∧ a.tmps[0]? = some s ∧ a.tmps[1]? = some sh ∧ a.tmps[5]? = some (.int .i64 (at_ : Int)) ∧ a.tmps[6]? = some p ∧ a.tmps[7]? = some le ∧ a.tmps[8]? = some lf
theorem Fr.out {a : Act} {s sh : Value} {at_ : Nat} {p le lf : Value} (h : Fr a s sh at_ p le lf) : ∃ f : Nat → Value, a = { tmps := #[s, sh, f 2, f 3, f 4, .int .i64 (at_ : Int), p, le, lf, f 9, f 10, f 11, f 12, f 13, f 14, f 15, f 16, f 17, f 18, f 19, f 20, f 21, f 22, f 23, f 24, f 25, f 26, f 27, f 28, f 29, f 30, f 31, f 32, f 33, f 34, f 35, f 36, f 37, f 38, f 39, f 40, f 41, f 42, f 43, f 44, f 45, f 46, f 47, f 48, f 49, f 50, f 51, f 52, f 53, f 54, f 55, f 56, f 57, f 58, f 59, f 60, f 61, f 62, f 63, f 64, f 65, f 66, f 67, f 68, f 69, f 70, f 71, f 72, f 73, f 74, f 75, f 76, f 77, f 78, f 79, f 80, f 81], defers := [] } := by
 obtain ⟨t, d⟩ := a
 obtain ⟨rfl, hs, h0, h1, h5, h6, h7, h8⟩ := h
 simp only at hs h0 h1 h5 h6 h7 h8
 refine ⟨fun n => (t[n]?).getD undef, ?_⟩
 have e : t = ((List.range 82).map fun i => (t[i]?).getD undef).toArray := by
  apply Array.ext
  ·simp [hs]
  ·intro i h1 h2
   simp [h1]
 have e2 : ((List.range 82).map fun i => (t[i]?).getD undef).toArray = #[(t[0]?).getD undef, (t[1]?).getD undef, (t[2]?).getD undef, (t[3]?).getD undef, (t[4]?).getD undef, (t[5]?).getD undef, (t[6]?).getD undef, (t[7]?).getD undef, (t[8]?).getD undef, (t[9]?).getD undef, (t[10]?).getD undef, (t[11]?).getD undef, (t[12]?).getD undef, (t[13]?).getD undef, (t[14]?).getD undef, (t[15]?).getD undef, (t[16]?).getD undef, (t[17]?).getD undef, (t[18]?).getD undef, (t[19]?).getD undef, (t[20]?).getD undef, (t[21]?).getD undef, (t[22]?).getD undef, (t[23]?).getD undef, (t[24]?).getD undef, (t[25]?).getD undef, (t[26]?).getD undef, (t[27]?).getD undef, (t[28]?).getD undef, (t[29]?).getD undef, (t[30]?).getD undef, (t[31]?).getD undef, (t[32]?).getD undef, (t[33]?).getD undef, (t[34]?).getD undef, (t[35]?).getD undef, (t[36]?).getD undef, (t[37]?).getD undef, (t[38]?).getD undef, (t[39]?).getD undef, (t[40]?).getD undef, (t[41]?).getD undef, (t[42]?).getD undef, (t[43]?).getD undef, (t[44]?).getD undef, (t[45]?).getD undef, (t[46]?).getD undef, (t[47]?).getD undef, (t[48]?).getD undef, (t[49]?).getD undef, (t[50]?).getD undef, (t[51]?).getD undef, (t[52]?).getD undef, (t[53]?).getD undef, (t[54]?).getD undef, (t[55]?).getD undef, (t[56]?).getD undef, (t[57]?).getD undef, (t[58]?).getD undef, (t[59]?).getD undef, (t[60]?).getD undef, (t[61]?).getD undef, (t[62]?).getD undef, (t[63]?).getD undef, (t[64]?).getD undef, (t[65]?).getD undef, (t[66]?).getD undef, (t[67]?).getD undef, (t[68]?).getD undef, (t[69]?).getD undef, (t[70]?).getD undef, (t[71]?).getD undef, (t[72]?).getD undef, (t[73]?).getD undef, (t[74]?).getD undef, (t[75]?).getD undef, (t[76]?).getD undef, (t[77]?).getD undef, (t[78]?).getD undef, (t[79]?).getD undef, (t[80]?).getD undef, (t[81]?).getD undef] := rfl
 simp only [h0, h1, h5, h6, h7, h8, Option.getD_some] at e2
 rw [← e2, ← e]
attribute [irreducible] Fr
theorem Fr.mk {t : Array Value} {s sh : Value} {at_ : Nat} {p le lf : Value} (h : t.size = 82 ∧ t[0]? = some s ∧ t[1]? = some sh ∧ t[5]? = some (.int .i64 (at_ : Int)) ∧ t[6]? = some p ∧ t[7]? = some le ∧ t[8]? = some lf) : Fr { tmps := t, defers := [] } s sh at_ p le lf := by
 unfold Fr
 exact ⟨rfl, h⟩
theorem Fr.at5 {a : Act} {s sh : Value} {at_ : Nat} {p le lf : Value} (h : Fr a s sh at_ p le lf) : a.tmps.getD 5 undef = .int .i64 (at_ : Int) := by
 obtain ⟨f, rfl⟩ := h.out
 rfl
def WJ (l : List Nat) (sh : Value) (Inv : List Nat → World → Prop) : Nat → Act → World → Prop
 | 0, a, w => ∃ vs r p le lf, Fr a (.string (bstr l)) sh (E vs).length p le lf ∧ (∀ v ∈ vs, May v) ∧ l = E vs ++ r ∧ Inv vs w
 | 1, a, w => ∃ vs r t at_ p le lf, Fr a (.string (bstr l)) sh at_ (.int .i64 ((p : Nat) : Int)) (.int .i64 ((le : Nat) : Int)) lf ∧ (∀ v ∈ vs, May v) ∧ l = E vs ++ r ∧ r ≠ [] ∧ at_ + t.length = l.length ∧ l.drop at_ = t ∧ st r = fur 0 p le t ∧ p ≤ 2097152 ∧ le ≤ 65536 ∧ Inv vs w
 | 2, a, w => ∃ at_ p le lf, Fr a (.string (bstr l)) sh at_ p le lf ∧ (¬ ∃ ws, V l ws) ∧ ∃ vs, Inv vs w
 | 3, a, w => ∃ vs r t at_ p le n, Fr a (.string (bstr l)) sh at_ (.int .i64 ((p : Nat) : Int)) (.int .i64 ((le : Nat) : Int)) (.int .i64 ((n : Nat) : Int)) ∧ (∀ v ∈ vs, May v) ∧ l = E vs ++ r ∧ r ≠ [] ∧ at_ + t.length = l.length ∧ l.drop at_ = t ∧ st r = fur n p le t ∧ (n = 1 ∧ p < 32768 ∨ n = 2 ∧ p < 512 ∨ n = 3 ∧ p < 8) ∧ le ≤ 65536 ∧ Inv vs w
 | _, _, _ => False
def Wμ (len : Nat) : Nat → Act → Nat
 | 0, a => 4 * (len - (RowKit.intOf (a.tmps.getD 5 undef)).toNat) + 1
 | 1, a => 4 * (len - (RowKit.intOf (a.tmps.getD 5 undef)).toNat) + 2
 | 3, a => 4 * (len - (RowKit.intOf (a.tmps.getD 5 undef)).toNat) + 3
 | _, _ => 0
theorem Wμ0 {len : Nat} {a : Act} {s sh : Value} {at_ : Nat} {p le lf : Value} (h : Fr a s sh at_ p le lf) : Wμ len 0 a = 4 * (len - at_) + 1 := by
 show 4 * (len - (RowKit.intOf (a.tmps.getD 5 undef)).toNat) + 1 = _
 rw [h.at5]; simp [RowKit.intOf]
theorem Wμ1 {len : Nat} {a : Act} {s sh : Value} {at_ : Nat} {p le lf : Value} (h : Fr a s sh at_ p le lf) : Wμ len 1 a = 4 * (len - at_) + 2 := by
 show 4 * (len - (RowKit.intOf (a.tmps.getD 5 undef)).toNat) + 2 = _
 rw [h.at5]; simp [RowKit.intOf]
theorem Wμ3 {len : Nat} {a : Act} {s sh : Value} {at_ : Nat} {p le lf : Value} (h : Fr a s sh at_ p le lf) : Wμ len 3 a = 4 * (len - at_) + 3 := by
 show 4 * (len - (RowKit.intOf (a.tmps.getD 5 undef)).toNat) + 3 = _
 rw [h.at5]; simp [RowKit.intOf]
theorem Wμ2 {len : Nat} {a : Act} : Wμ len 2 a = 0 := rfl
end Go.Proofs.YtjpjdkdbgjipnaaDoor
namespace Go.Proofs.YtjpjdkdbgjipnaaDoor
open Go.RowKit Go.Deep
def capSum : Nat → List Nat → Nat
 | n, [] => n
 | n, x :: xs => if 1099511627776 < n + x then 1099511627776 else capSum (n + x) xs
theorem yy408 (n : Nat) (xs : List Nat) (k : Nat) (h : k < xs.length) : capSum n (xs.drop k) = if 1099511627776 < n + xs[k] then 1099511627776 else capSum (n + xs[k]) (xs.drop (k + 1)) := by
 rw [List.drop_eq_getElem_cons h]
 rfl
def NatsAt (w : World) (b off : Nat) (xs : List Nat) : Prop := ∀ j x : Nat, xs[j]? = some x → w.cell? ⟨b, off + j, none⟩ = some (.int .i64 (x : Int))
set_option maxRecDepth 100000 in
theorem yy320 (n : Nat) (hn : n ≤ 9223372036854775807) (b off cap : Nat) (xs : List Nat) (hl : xs.length ≤ maxLen) (hx : ∀ x ∈ xs, x ≤ 9223372036854775807) (w : World) (hc : NatsAt w b off xs) :
  Calls Tryd.prog 26 #[.int .i64 (n : Int), .slice (some ⟨b, off, none⟩) xs.length cap] w fun e w' => e = .returned (.int .i64 ((capSum n xs : Nat) : Int)) ∧ w = w' := by
 unfold maxLen at hl
 have HC := xh hc; clear hc
 have HX := xh hx; clear hx
 have HN := xh hn; clear hn
 go_enter Tryd.func26, Tryd.ntmps26
 go_wp2
 go_loop [0, 5] (fun t i => ∃ k m : Nat, k ≤ xs.length ∧ i = .int .i64 k ∧ t = .int .i64 (m : Int) ∧ m ≤ 9223372036854775807 ∧ capSum m (xs.drop k) = capSum n xs) (fun _ i => xs.length - (intOf i).toNat)
 case atStart => exact ⟨0, n, Nat.zero_le _, rfl, rfl, HN.out, rfl⟩
 case round =>
  obtain ⟨k, m, hk, rfl, rfl, hm, he⟩ := hrel
  have HE := xh he; clear he
  by_cases hlt : k < xs.length
  ·have hcell := HC.out k _ (List.getElem?_eq_getElem hlt)
   have hxk := HX.out _ (List.getElem_mem hlt)
   have hd := yy408 m xs k hlt
   rw [HE.out] at hd
   have HD := xh hd; clear hd
   obtain ⟨x, HXX⟩ : ∃ x, Hid (xs[k] = x) := ⟨xs[k], xh rfl⟩
   rw [HXX.out] at hcell hxk HD
   by_cases hb : 1099511627776 < m + x
   ·have HR : Hid (capSum n xs = 1099511627776) := by show capSum n xs = 1099511627776; rw [HD.out, if_pos hb]
    by_cases h1 : 1099511627776 < m
    ·go_wp2
     go_ret
     exact ⟨by rw [HR.out]; rfl, rfl⟩
    ·have h1' : m ≤ 1099511627776 := by omega
     go_wp2
     go_ret
     exact ⟨by rw [HR.out]; rfl, rfl⟩
   ·have h1' : m ≤ 1099511627776 := by omega
    have HR : Hid (capSum (m + x) (xs.drop (k + 1)) = capSum n xs) := by show capSum (m + x) (xs.drop (k + 1)) = capSum n xs; rw [HD.out, if_neg hb]
    go_wp2
    go_round
    case rel => exact ⟨k + 1, m + x, by omega, by go_num, by go_num, by omega, HR.out⟩
    case measure => simp [intOf]; omega
  ·have HR : Hid (m = capSum n xs) := by
    show m = capSum n xs
    rw [← HE.out, List.drop_eq_nil_of_le (by omega)]
    rfl
   go_wp2
   go_ret
   exact ⟨by rw [← HR.out]; rfl, rfl⟩
end Go.Proofs.YtjpjdkdbgjipnaaDoor
