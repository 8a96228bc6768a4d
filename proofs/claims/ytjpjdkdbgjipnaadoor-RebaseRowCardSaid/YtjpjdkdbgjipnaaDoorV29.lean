/- A sorted stretch and one element merged. Conditions: both stretches lie within the row; each of the first one stands, where they are equal, ahead of each of the second one. (Merged of 6 texts.) -/
import Derived.Test.YtjpjdkdbgjipnaaDoorV0
import Derived.Test.YtjpjdkdbgjipnaaDoorV28
import Derived.Shelf.SlSortCmp.KitK
import Derived.Deep.LoopGhost
import Derived.Sort.WalkB2
import Derived.Sort.WalkB12
import Derived.Lib.Hide
namespace Go.Proofs.YtjpjdkdbgjipnaaDoor
open Go.RowKit
structure LaysS (P : Program) (k : Nat) : Prop where
 mixed : P.follows .mixedOrders = true
 fSwap : P.funcs[109]? = some Tryd.f109
 fRot : P.funcs[106]? = some Tryd.f106
 fMerge : P.funcs[100]? = some Tryd.f100
 fStable : P.funcs[83]? = some Tryd.f83
 t3 : P.underlying 3 = some (.int .i64)
 a3 : ∀ w, (isAgg 3).run P w = .ok false w
 z3 : ∀ w, (Go.sizeOf 3).run P w = .ok 1 w
 v3 : ∀ w, (zeroValue 3).run P w = .ok (.int .i64 0) w
 t4 : P.underlying 4 = some .bool
 a4 : ∀ w, (isAgg 4).run P w = .ok false w
 z4 : ∀ w, (Go.sizeOf 4).run P w = .ok 1 w
 v4 : ∀ w, (zeroValue 4).run P w = .ok (.bool false) w
 t32 : P.underlying 23 = some (.slice 46)
 a32 : ∀ w, (isAgg 23).run P w = .ok false w
 z32 : ∀ w, (Go.sizeOf 23).run P w = .ok 1 w
 v32 : ∀ w, (zeroValue 23).run P w = .ok (.slice none 0 0) w
 t85 : P.underlying 111 = some (.func #[46, 46] #[3] false)
 a85 : ∀ w, (isAgg 111).run P w = .ok false w
 z85 : ∀ w, (Go.sizeOf 111).run P w = .ok 1 w
 v85 : ∀ w, (zeroValue 111).run P w = .ok .nilFunc w
 t92 : P.underlying 124 = some (.int .u64)
 a92 : ∀ w, (isAgg 124).run P w = .ok false w
 z92 : ∀ w, (Go.sizeOf 124).run P w = .ok 1 w
 v92 : ∀ w, (zeroValue 124).run P w = .ok (.int .u64 0) w
 aE : ∀ w, (isAgg 46).run P w = .ok true w
 zE : ∀ w, (Go.sizeOf 46).run P w = .ok k w
theorem laysS : LaysS Tryd.prog 6 where
 mixed := by kernel_rfl
 fSwap := Tryd.func109
 fRot := Tryd.func106
 fMerge := Tryd.func100
 fStable := Tryd.func83
 t3 := Tryd.underlying3
 a3 := Tryd.isAgg3
 z3 := Tryd.sizeOf3
 v3 := Tryd.zeroValue3
 t4 := Tryd.underlying4
 a4 := Tryd.isAgg4
 z4 := Tryd.sizeOf4
 v4 := Tryd.zeroValue4
 t32 := Tryd.underlying23
 a32 := Tryd.isAgg23
 z32 := Tryd.sizeOf23
 v32 := Tryd.zeroValue23
 t85 := Tryd.underlying111
 a85 := Tryd.isAgg111
 z85 := Tryd.sizeOf111
 v85 := Tryd.zeroValue111
 t92 := Tryd.underlying124
 a92 := Tryd.isAgg124
 z92 := Tryd.sizeOf124
 v92 := Tryd.zeroValue124
 aE := Tryd.isAgg46
 zE := Tryd.sizeOf46
end Go.Proofs.YtjpjdkdbgjipnaaDoor
namespace Go.Proofs.YtjpjdkdbgjipnaaDoor
open Go.RowKit Go.Lib Go.Sort
variable {P : Program} {α : Type} [Inhabited α] {enc : α → List Value} {k : Nat} {w0 : World} {blk off : Nat} {d0 : Array α}
set_option maxHeartbeats 4000000 in
set_option maxRecDepth 1000000 in
theorem yy441 (L : LaysS P k) (R : RowK enc k w0 blk off d0) (g : Nat) (cb : Array Value) (cap a b n : Nat) (d : Array α) (w : World) (S : SWK enc k w0 blk off d w) (hs : d0.size = d.size) (hab : a + n ≤ b) (hb : b + n ≤ d.size) (hsz : d.size < 1099511627776)
  (lo hi : Nat) (hlo : lo ≤ a) (hhi : b + n ≤ hi) (hhz : hi ≤ d.size) :
  Calls P 109 #[.slice (some ⟨blk, off, none⟩) d.size cap, .int .i64 a, .int .i64 b, .int .i64 n, .func (.func g) #[] cb] w fun e w' => e = .returned (.tuple #[]) ∧ ∃ d', SWK enc k w0 blk off d' w' ∧ yy120 d a b n d' ∧ PermIn lo hi d d' := by
 have mixed := L.mixed; have t3 := L.t3; have a3 := L.a3; have z3 := L.z3; have v3 := L.v3; have t4 := L.t4; have a4 := L.a4; have z4 := L.z4; have v4 := L.v4; have t32 := L.t32; have a32 := L.a32; have z32 := L.z32; have v32 := L.v32; have t85 := L.t85; have a85 := L.a85; have z85 := L.z85; have v85 := L.v85; have aE := L.aE; have zE := L.zE
 have FG := L.fSwap
 have S0 : Aside (SWK enc k w0 blk off d w) := S
 have RR : Aside (RowK enc k w0 blk off d0) := R
 clear S R
 go_enter FG, Tryd.ntmps109
 go_wp2
 go_loopg [10] n (fun kx s10 wr => ∃ (i : Nat) (dk : Array α), s10 = .int .i64 i ∧ i ≤ n ∧ n - i ≤ kx ∧ Aside (SWK enc k w0 blk off dk wr) ∧ Aside (yy120 d a b i dk) ∧ Aside (PermIn lo hi d dk))
 case atStart => exact ⟨0, d, rfl, Nat.zero_le _, Nat.le_refl _, S0, yy347 d a b, permIn_refl d lo hi⟩
 case round =>
  clear S0
  obtain ⟨i, dk, rfl, hin, hkx, S1, HR, HP⟩ := hrel
  by_cases hlt : i < n
  ·have hltz : (i : Int) < (n : Int) := by omega
   have hds : dk.size = d.size := HR.out.1
   obtain ⟨x, hx⟩ : ∃ x, a + i = x := ⟨_, rfl⟩
   obtain ⟨y, hy⟩ : ∃ y, b + i = y := ⟨_, rfl⟩
   have ex : (a : Int) + (i : Int) = (x : Int) := by omega
   have ey : (b : Int) + (i : Int) = (y : Int) := by omega
   have ea44 : ((x : Int)).toNat = x := by omega
   have pa44 : (0 : Int) ≤ (x : Int) := by omega
   have ba44 : (x : Int) < (d.size : Int) := by omega
   have ra44 : IntKind.i64.wrap ((x : Int)) = (x : Int) := by rw [IntKind.wrap_i64]; omega
   have ec44 : ((y : Int)).toNat = y := by omega
   have pc44 : (0 : Int) ≤ (y : Int) := by omega
   have bc44 : (y : Int) < (d.size : Int) := by omega
   have rc44 : IntKind.i64.wrap ((y : Int)) = (y : Int) := by rw [IntKind.wrap_i64]; omega
   have S2 : Aside (SWK enc k w0 blk off (swp dk x y) ((wr.drew.setCells blk (off + x * k) (enc dk[y]!)).setCells blk (off + y * k) (enc dk[x]!))) := S1.out.swapped RR.out x y (by omega) (by omega)
   have l44a := S1.out.ld1 RR.out (by omega) P x (by omega)
   have l44b := S1.out.ld1 RR.out (by omega) P y (by omega)
   have s44a := S1.out.st1 RR.out (by omega) P x (by omega) dk[y]!
   have s44b := S1.out.st2 RR.out (by omega) P x y (by omega) (by omega) dk[y]! dk[x]!
   have n44a : (enc dk[x]!).length = k := RR.out.hk _
   have n44b : (enc dk[y]!).length = k := RR.out.hk _
   have HR2 : Aside (yy120 d a b (i + 1) (swp dk x y)) := by
    have := HR.out.step (by omega) (by omega)
    rwa [hx, hy] at this
   have HP2 : Aside (PermIn lo hi d (swp dk x y)) := permIn_trans _ _ _ lo hi HP.out (swp_permIn dk lo hi x y (by omega) (by omega) (by omega) (by omega) (by omega))
   have HX : Aside (a + i = x ∧ b + i = y) := ⟨hx, hy⟩
   clear hx hy HR HP
   generalize enc dk[x]! = cI44 at S2 l44a s44b n44a
   generalize enc dk[y]! = cJ44 at S2 l44b s44a s44b n44b
   clear S1
   go_wp2_with fail
   go_big_region_o
   clear l44a l44b s44a s44b
   generalize (wr.drew.setCells blk (off + x * k) cJ44).setCells blk (off + y * k) cI44 = w2 at S2 ⊢
   go_wp2
   go_roundg (n - (i + 1))
   case measure => omega
   case rel => exact ⟨i + 1, swp dk x y, by first | rfl | simp, by omega, Nat.le_refl _, S2, HR2, HP2⟩
  ·have hltz : ¬ (i : Int) < (n : Int) := by omega
   obtain rfl : i = n := by omega
   go_wp2
   go_end0
   exact ⟨rfl, dk, S1.out, HR.out, HP.out⟩
variable {P : Program} {α : Type} [Inhabited α] {enc : α → List Value} {k : Nat} {w0 : World} {blk off : Nat} {d0 : Array α}
set_option maxHeartbeats 4000000 in
set_option maxRecDepth 1000000 in
theorem yy523 (L : LaysS P k) (R : RowK enc k w0 blk off d0) (g : Nat) (cb : Array Value) (cap a m b : Nat) (d : Array α) (w : World) (S : SWK enc k w0 blk off d w) (hs : d0.size = d.size) (ham : a < m) (hmb : m < b) (hb : b ≤ d.size) (hsz : d.size < 1099511627776) :
  Calls P 106 #[.slice (some ⟨blk, off, none⟩) d.size cap, .int .i64 a, .int .i64 m, .int .i64 b, .func (.func g) #[] cb] w fun e w' => e = .returned (.tuple #[]) ∧ ∃ d', SWK enc k w0 blk off d' w' ∧ RotRes d a m b d' ∧ PermIn a b d d' := by
 have mixed := L.mixed; have t3 := L.t3; have a3 := L.a3; have z3 := L.z3; have v3 := L.v3; have t4 := L.t4; have a4 := L.a4; have z4 := L.z4; have v4 := L.v4; have t32 := L.t32; have a32 := L.a32; have z32 := L.z32; have v32 := L.v32; have t85 := L.t85; have a85 := L.a85; have z85 := L.z85; have v85 := L.v85
 have FG := L.fRot
 have e77 : ∀ args w, (callFunc 109 args).run P w = .ok (.enter 109 args) w := enters_of L.fSwap (by kernel_rfl) rfl
 have GS := xh (fun (x y n : Nat) (dk : Array α) (wr : World) (hS : SWK enc k w0 blk off dk wr) (hd : dk.size = d.size) (h1 : x + n ≤ y) (h2 : y + n ≤ b) (h3 : a ≤ x) => by
  have := yy441 L R g cb cap x y n dk wr hS (by omega) h1 (by omega) (by omega) a b h3 h2 (by omega)
  rwa [hd] at this)
 have S0 : Aside (SWK enc k w0 blk off d w) := S
 clear S R
 go_enter FG, Tryd.ntmps106
 obtain ⟨i0, hi0⟩ : ∃ x, m - a = x := ⟨_, rfl⟩
 obtain ⟨j0, hj0⟩ : ∃ x, b - m = x := ⟨_, rfl⟩
 have ei0 : (m : Int) - (a : Int) = (i0 : Int) := by omega
 have ej0 : (b : Int) - (m : Int) = (j0 : Int) := by omega
 go_wp2
 go_loopg [10, 11] (i0 + j0) (fun kx s10 s11 wr => ∃ (i j : Nat) (dk : Array α), s10 = .int .i64 i ∧ s11 = .int .i64 j ∧ 0 < i ∧ 0 < j ∧ a + i ≤ m ∧ m + j ≤ b ∧ i + j ≤ kx ∧ dk.size = d.size ∧ Aside (SWK enc k w0 blk off dk wr) ∧ Aside (∀ t, rotF dk (m - i) m (m + j) t = rotF d a m b t) ∧ Aside (PermIn a b d dk))
 case atStart => exact ⟨i0, j0, d, rfl, rfl, by omega, by omega, by omega, by omega, Nat.le_refl _, rfl, S0, (fun t => by rw [show m - i0 = a by omega, show m + j0 = b by omega]), permIn_refl d a b⟩
 case round =>
  clear S0 ei0 ej0
  obtain ⟨i, j, dk, rfl, rfl, hi, hj, hia, hjb, hkx, hds, S1, HF, HP⟩ := hrel
  obtain ⟨x, hx⟩ : ∃ x, m - i = x := ⟨_, rfl⟩
  have ex : (m : Int) - (i : Int) = (x : Int) := by omega
  by_cases hij : i = j
  ·subst hij
   have G1 := GS.out x m i dk wr S1.out hds (by omega) (by omega) (by omega)
   have HXX : Aside (m - i = x) := hx
   clear hx
   go_wp2_with (go_at_fn 109; refine G1.mono ?_; rintro e w1 ⟨rfl, dk', S2, HR2, HP2⟩)
   go_end0
   exact ⟨rfl, dk', S2, ⟨by rw [HR2.1]; exact hds, fun t => by
    have h1 := yy693 (d := dk) (e := dk') (m := m) (i := i) (by omega) (by rw [HXX.out]; exact HR2) t
    rw [h1]; exact HF.out t⟩, permIn_trans _ _ _ a b HP.out HP2⟩
  ·have hz1 : ¬ (i : Int) = (j : Int) := by omega
   by_cases hlt : j < i
   ·have hz2 : (j : Int) < (i : Int) := by omega
    have G1 := GS.out x m j dk wr S1.out hds (by omega) (by omega) (by omega)
    have HXX : Aside (m - i = x) := hx
    obtain ⟨i', hi'⟩ : ∃ y, i - j = y := ⟨_, rfl⟩
    have ei' : (i : Int) - (j : Int) = (i' : Int) := by omega
    have HII : Aside (i - j = i') := hi'
    clear hx hi'
    go_wp2_with (go_at_fn 109; refine G1.mono ?_; rintro e w1 ⟨rfl, dk', S2, HR2, HP2⟩)
    go_roundg (i' + j)
    case measure => have := HII.out; omega
    case rel => exact ⟨i', j, dk', rfl, rfl, by have := HII.out; omega, hj, by have := HII.out; omega, hjb, Nat.le_refl _, by rw [HR2.1]; exact hds, S2, (fun t => by
     have h1 := yy694 (d := dk) (e := dk') (m := m) (i := i) (j := j) (by omega) hlt (by rw [HXX.out]; exact HR2) t
     rw [HII.out] at h1
     rw [h1]; exact HF.out t), permIn_trans _ _ _ a b HP.out HP2⟩
   ·have hz2 : ¬ (j : Int) < (i : Int) := by omega
    obtain ⟨s, hs1⟩ : ∃ y, m + j = y := ⟨_, rfl⟩
    obtain ⟨y, hy⟩ : ∃ y, s - i = y := ⟨_, rfl⟩
    have es : (m : Int) + (j : Int) = (s : Int) := by omega
    have ey : (s : Int) - (i : Int) = (y : Int) := by omega
    have G1 := GS.out x y i dk wr S1.out hds (by omega) (by omega) (by omega)
    obtain ⟨j', hj'⟩ : ∃ y, j - i = y := ⟨_, rfl⟩
    have ej' : (j : Int) - (i : Int) = (j' : Int) := by omega
    have HXX : Aside (m - i = x ∧ m + j - i = y ∧ j - i = j') := ⟨hx, by rw [hs1]; exact hy, hj'⟩
    clear hx hj' hy hs1
    go_wp2_with (go_at_fn 109; refine G1.mono ?_; rintro e w1 ⟨rfl, dk', S2, HR2, HP2⟩)
    go_roundg (i + j')
    case measure => have := HXX.out; omega
    case rel => exact ⟨i, j', dk', rfl, rfl, hi, by have := HXX.out; omega, hia, by have := HXX.out; omega, Nat.le_refl _, by rw [HR2.1]; exact hds, S2, (fun t => by
     have h1 := yy695 (d := dk) (e := dk') (m := m) (i := i) (j := j) (by omega) (by omega) (by rw [HXX.out.1, HXX.out.2.1]; exact HR2) t
     rw [HXX.out.2.2] at h1
     rw [h1]; exact HF.out t), permIn_trans _ _ _ a b HP.out HP2⟩
end Go.Proofs.YtjpjdkdbgjipnaaDoor
namespace Go.Proofs.YtjpjdkdbgjipnaaDoor
open Go.Sort
variable {α : Type} [Inhabited α] {lt : α → α → Bool} {d e : Array α}
theorem yy593 {a i b : Nat} (h : RotRes d a (a + 1) i e) (hi : a + 1 ≤ i) (hib : i ≤ b) (hs : SortedIn lt (a + 1) b d) (A : ∀ t, a + 1 ≤ t → t < i → lt d[a]! d[t]! = false) (B : ∀ t, i ≤ t → t < b → lt d[t]! d[a]! = false) : SortedIn lt a b e := by
 have g1 : ∀ t, a ≤ t → t + 1 < i → e[t]! = d[t + 1]! := fun t h1 h2 => by rw [h.2, rotF, if_pos (by omega)]; exact congrArg (fun z => d[z]!) (by omega)
 have g2 : e[i - 1]! = d[a]! := by rw [h.2, rotF, if_neg (by omega), if_pos (by omega)]; exact congrArg (fun z => d[z]!) (by omega)
 have g3 : ∀ t, i ≤ t → e[t]! = d[t]! := fun t h1 => by rw [h.2, rotF, if_neg (by omega), if_neg (by omega)]
 intro x y hx hxy hy
 by_cases c1 : x + 1 < i
 ·rw [g1 x hx c1]
  by_cases c2 : y + 1 < i
  ·rw [g1 y (by omega) c2]; exact hs _ _ (by omega) (by omega) (by omega)
  ·by_cases c3 : y = i - 1
   ·subst c3; rw [g2]; exact A _ (by omega) c1
   ·rw [g3 y (by omega)]; exact hs _ _ (by omega) (by omega) hy
 ·by_cases c3 : x = i - 1
  ·subst c3; rw [g2, g3 y (by omega)]; exact B _ (by omega) hy
  ·rw [g3 x (by omega), g3 y (by omega)]; exact hs _ _ (by omega) hxy hy
theorem yy442 {a i m : Nat} (h : RotRes d i m (m + 1) e) (hai : a ≤ i) (him : i ≤ m) (hs : SortedIn lt a m d) (A : ∀ t, a ≤ t → t < i → lt d[m]! d[t]! = false) (B : ∀ t, i ≤ t → t < m → lt d[t]! d[m]! = false) : SortedIn lt a (m + 1) e := by
 have g1 : ∀ t, t < i → e[t]! = d[t]! := fun t h1 => by rw [h.2, rotF, if_neg (by omega), if_neg (by omega)]
 have g2 : e[i]! = d[m]! := by rw [h.2, rotF, if_pos (by omega)]; exact congrArg (fun z => d[z]!) (by omega)
 have g3 : ∀ t, i < t → t ≤ m → e[t]! = d[t - 1]! := fun t h1 h2 => by rw [h.2, rotF, if_neg (by omega), if_pos (by omega)]; exact congrArg (fun z => d[z]!) (by omega)
 intro x y hx hxy hy
 by_cases c1 : y < i
 ·rw [g1 x (by omega), g1 y c1]; exact hs _ _ hx hxy (by omega)
 by_cases c2 : y = i
 ·subst c2; rw [g2, g1 x hxy]; exact A _ hx hxy
 rw [g3 y (by omega) (by omega)]
 by_cases c3 : x < i
 ·rw [g1 x c3]; exact hs _ _ hx (by omega) (by omega)
 by_cases c4 : x = i
 ·subst c4; rw [g2]; exact B _ (by omega) (by omega)
 rw [g3 x (by omega) (by omega)]; exact hs _ _ (by omega) (by omega) (by omega)
section
variable (hS : SWO lt)
include hS
theorem yy524 {m b h : Nat} {v : α} (hs : SortedIn lt m b d) (hm : m ≤ h) (hb : h < b) (hv : lt v d[h]! = false) : ∀ t, m ≤ t → t < h + 1 → lt v d[t]! = false := fun t h1 h2 => by
 by_cases c : t = h
 ·subst c; exact hv
 ·exact hS.ntrans _ _ _ hv (hs t h h1 (by omega) hb)
theorem yy179 {m b h : Nat} {v : α} (hs : SortedIn lt m b d) (hm : m ≤ h) (hv : lt d[h]! v = false) : ∀ t, h ≤ t → t < b → lt d[t]! v = false := fun t h1 h2 => by
 by_cases c : t = h
 ·subst c; exact hv
 ·exact hS.ntrans _ _ _ (hs h t hm (by omega) h2) hv
theorem yy525 {a m b c q : Nat} (hl : SortedIn lt a m d) (hr : SortedIn lt m b d) (hc : c < m) (hq : m ≤ q) (hv : lt d[q]! d[c]! = false) : ∀ x y, a ≤ x → x < c + 1 → q ≤ y → y < b → lt d[y]! d[x]! = false := fun x y h1 h2 h3 h4 => by
 have e1 : lt d[y]! d[c]! = false := yy179 hS hr hq hv y h3 h4
 by_cases c1 : x = c
 ·subst c1; exact e1
 ·exact hS.ntrans _ _ _ e1 (hl x c h1 (by omega) hc)
theorem yy392 {a m b c q : Nat} (hl : SortedIn lt a m d) (hr : SortedIn lt m b d) (ha : a ≤ c) (hq : q < b) (hv : lt d[c]! d[q]! = false) : ∀ x y, c ≤ x → x < m → m ≤ y → y < q + 1 → lt d[x]! d[y]! = false := fun x y h1 h2 h3 h4 => by
 have e1 : lt d[x]! d[q]! = false := yy179 hS hl ha hv x h1 h2
 by_cases c1 : y = q
 ·subst c1; exact e1
 ·exact hS.ntrans _ _ _ e1 (hr y q h3 (by omega) hq)
end
end Go.Proofs.YtjpjdkdbgjipnaaDoor
namespace Go.Proofs.YtjpjdkdbgjipnaaDoor
open Go.RowKit Go.Lib Go.Sort
structure Ord {α : Type} (lt : α → α → Bool) (C : α → α → Prop) (cn : α → α → Int) : Prop where
 swo : SWO lt
 yes : ∀ x y, C x y → cn y x < 0 → lt x y = false
 no : ∀ x y, C x y → ¬ cn y x < 0 → lt y x = false
def yy144 {α : Type} [Inhabited α] (P : Program) (enc : α → List Value) (k : Nat) (w0 : World) (blk off : Nat) (lt : α → α → Bool) (g : Nat) (cb : Array Value) (cap a m b : Nat) (d : Array α) (w : World) : Prop :=
 Calls P 100 #[.slice (some ⟨blk, off, none⟩) d.size cap, .int .i64 a, .int .i64 m, .int .i64 b, .func (.func g) #[] cb] w fun e w' => e = .returned (.tuple #[]) ∧ ∃ d', SWK enc k w0 blk off d' w' ∧ PermIn a b d d' ∧ SortedIn lt a b d'
def yy636 {α : Type} [Inhabited α] (P : Program) (enc : α → List Value) (k : Nat) (w0 : World) (blk off : Nat) (d0 : Array α) (lt : α → α → Bool) (C : α → α → Prop) (g : Nat) (cb : Array Value) (cap N : Nat) : Prop :=
 ∀ (a m b : Nat) (d : Array α) (w : World), b - a ≤ N → a < m → m < b → b ≤ d.size → d0.size = d.size → SWK enc k w0 blk off d w → SortedIn lt a m d → SortedIn lt m b d → (∀ x y, a ≤ x → x < m → m ≤ y → y < b → C d[x]! d[y]!) → yy144 P enc k w0 blk off lt g cb cap a m b d w
variable {P : Program} {α : Type} [Inhabited α] {enc : α → List Value} {k : Nat} {w0 : World} {blk off : Nat} {d0 : Array α}
set_option maxHeartbeats 8000000 in
set_option maxRecDepth 1000000 in
theorem yy298 (L : LaysS P k) (R : RowK enc k w0 blk off d0) {lt : α → α → Bool} {C : α → α → Prop} {cn : α → α → Int} (O : Ord lt C cn) (g : Nat) (cb : Array Value) (cap : Nat)
  (eg : ∀ args w, (callFunc g args).run P w = .ok (.enter g args) w) (hcmp : CmpLays P g cb enc k cn blk off d0.size w0) (hsz : d0.size < 1099511627776)
  (a m b : Nat) (d : Array α) (w : World) (h2 : b = m + 1) (h1 : m ≠ a + 1) (ham : a < m) (hmb : m < b) (hb : b ≤ d.size) (hd : d0.size = d.size) (S : SWK enc k w0 blk off d w) (hl : SortedIn lt a m d) (hr : SortedIn lt m b d) (hC : ∀ x y, a ≤ x → x < m → m ≤ y → y < b → C d[x]! d[y]!) :
  yy144 P enc k w0 blk off lt g cb cap a m b d w := by
 unfold yy144
 have mixed := L.mixed; have t3 := L.t3; have a3 := L.a3; have z3 := L.z3; have v3 := L.v3; have t4 := L.t4; have a4 := L.a4; have z4 := L.z4; have v4 := L.v4; have t32 := L.t32; have a32 := L.a32; have z32 := L.z32; have v32 := L.v32; have t85 := L.t85; have a85 := L.a85; have z85 := L.z85; have v85 := L.v85; have t92 := L.t92; have a92 := L.a92; have z92 := L.z92; have v92 := L.v92; have aE := L.aE; have zE := L.zE
 have FG := L.fMerge
 have S0 : Hid (SWK enc k w0 blk off d w) := S
 have RR : Hid (RowK enc k w0 blk off d0) := R
 have HC : Hid (CmpLays P g cb enc k cn blk off d0.size w0) := hcmp
 have HL : Hid (SortedIn lt a m d) := hl
 have HR : Hid (SortedIn lt m b d) := hr
 have HX : Hid (∀ x y, a ≤ x → x < m → m ≤ y → y < b → C d[x]! d[y]!) := hC
 have HO : Hid (Ord lt C cn) := O
 have hszd : d.size < 1099511627776 := by omega
 clear S R hcmp hl hr hC O
 clear hsz
 go_enter FG, Tryd.ntmps100
 have h1z : ((m : Int) - (a : Int) == 1) = false := xn (by omega)
 have em1 : (b : Int) - (m : Int) = 1 := by omega
 clear h1
 have H2 : Hid (b = m + 1) := h2
 clear h2
 go_wp2
 go_loopg [14, 15] (m - a) (fun kx s14 s15 wr => ∃ i j : Nat, s14 = .int .i64 i ∧ s15 = .int .i64 j ∧ a ≤ i ∧ i ≤ j ∧ j ≤ m ∧ j - i ≤ kx ∧ Hid (SWK enc k w0 blk off d wr) ∧ Hid (∀ t, a ≤ t → t < i → lt d[m]! d[t]! = false) ∧ Hid (∀ t, j ≤ t → t < m → lt d[t]! d[m]! = false))
 case atStart => exact ⟨a, m, rfl, rfl, Nat.le_refl _, by omega, Nat.le_refl _, Nat.le_refl _, S0, (fun t h1 h2 => by omega), (fun t h1 h2 => by omega)⟩
 case round =>
  clear S0 em1 h1z
  obtain ⟨i, j, rfl, rfl, hi, hij, hjb, hkx, S1, HA, HB⟩ := hrel
  by_cases hlt : i < j
  ·have hltz : (i : Int) < (j : Int) := by omega
   obtain ⟨sm, hsm⟩ : ∃ x, i + j = x := ⟨_, rfl⟩
   obtain ⟨h, hh⟩ : ∃ x, sm / 2 = x := ⟨_, rfl⟩
   have esm : (i : Int) + (j : Int) = (sm : Int) := by omega
   have wsm : IntKind.u64.wrap (sm : Int) = (sm : Int) := by rw [IntKind.wrap_u64]; omega
   have dsm : (sm : Int) / 2 = (h : Int) := by omega
   have d2sm : (sm : Int) >>> 1 = (h : Int) := by rw [Int.shiftRight_eq_div_pow]; omega
   have wsh : IntKind.i64.wrap (h : Int) = (h : Int) := by rw [IntKind.wrap_i64]; omega
   have wuh : IntKind.u64.wrap (h : Int) = (h : Int) := by rw [IntKind.wrap_u64]; omega
   have Hh : Hid ((i + j) / 2 = h) := by show _ = _; rw [hsm]; exact hh
   have b1h : i ≤ h := by omega
   have b2h : h < j ∨ i = j := by omega
   clear hsm hh
   have hbd : h < d.size := by omega
   have had : m < d.size := by omega
   have eha : ((h : Int)).toNat = h := by omega
   have ehp : (0 : Int) ≤ (h : Int) := by omega
   have ehb : (h : Int) < (d.size : Int) := by omega
   have ehw : IntKind.i64.wrap ((h : Int)) = (h : Int) := by rw [IntKind.wrap_i64]; omega
   have ema : ((m : Int)).toNat = m := by omega
   have emp : (0 : Int) ≤ (m : Int) := by omega
   have emb : (m : Int) < (d.size : Int) := by omega
   have emw : IntKind.i64.wrap ((m : Int)) = (m : Int) := by rw [IntKind.wrap_i64]; omega
   obtain ⟨xi, hxi⟩ : ∃ x, d[m]! = x := ⟨_, rfl⟩
   obtain ⟨xj, hxj⟩ : ∃ x, d[h]! = x := ⟨_, rfl⟩
   have li : ∀ n' os', Sem.run P (loadCellsFrom ⟨blk, off + m * k, none⟩ 0 k #[]) (grow (wr.drewN n') os') = .ok (enc xi).toArray (grow (wr.drewN n') os') := fun n' os' => by rw [← hxi]; exact S1.out.ld RR.out (by omega) P m (by omega) n' os'
   have lj : ∀ n' os', Sem.run P (loadCellsFrom ⟨blk, off + h * k, none⟩ 0 k #[]) (grow (wr.drewN n') os') = .ok (enc xj).toArray (grow (wr.drewN n') os') := fun n' os' => by rw [← hxj]; exact S1.out.ld RR.out (by omega) P h (by omega) n' os'
   have hcg : ∀ n' os', Calls P g (#[.agg (enc xi).toArray, .agg (enc xj).toArray] ++ cb) (grow (wr.drewN n') os') fun e w' => e = .returned (.int .i64 (cn xi xj)) ∧ ∃ q os'', w' = grow ((grow (wr.drewN n') os').drewN q) os'' := fun n' os' => S1.out.cmp HC.out (by omega) xi xj n' os'
   have SG : Hid (∀ n' os', SWK enc k w0 blk off d (grow (wr.drewN n') os')) := fun n' os' => S1.out.grown n' os'
   have HXI : Hid (d[m]! = xi ∧ d[h]! = xj) := ⟨hxi, hxj⟩
   clear hxi hxj S1
   by_cases hv : cn xi xj < 0
   ·have HV : Hid (cn xi xj < 0) := hv
    have hvd : decide (cn xi xj < 0) = true := decide_eq_true hv
    have hvn : (!decide (cn xi xj < 0)) = false := by rw [hvd]; rfl
    go_wp2_with fail
    go_quiet_grown (first | (go_at_fn g; refine Calls.grown_of (hcg _ _)))
    go_wp2
    go_roundg (h - i)
    case measure => omega
    case rel => exact ⟨i, h, rfl, rfl, hi, by omega, by omega, Nat.le_refl _, SG.out _ _, HA.out, yy179 HO.out.swo HL.out (by omega) (HO.out.yes _ _ (HX.out h m (by omega) (by omega) (Nat.le_refl _) (by omega)) (by rw [HXI.out.1, HXI.out.2]; have := HV.out; omega))⟩
   ·have HV : Hid (¬ cn xi xj < 0) := hv
    have hvd : decide (cn xi xj < 0) = false := decide_eq_false hv
    have hvn : (!decide (cn xi xj < 0)) = true := by rw [hvd]; rfl
    go_wp2_with fail
    go_quiet_grown (first | (go_at_fn g; refine Calls.grown_of (hcg _ _)))
    go_wp2
    go_roundg (j - (h + 1))
    case measure => omega
    case rel => exact ⟨h + 1, j, by first | rfl | simp, rfl, by omega, by omega, hjb, Nat.le_refl _, SG.out _ _, yy524 HO.out.swo HL.out (by omega) (by omega) (HO.out.no _ _ (HX.out h m (by omega) (by omega) (Nat.le_refl _) (by omega)) (by rw [HXI.out.1, HXI.out.2]; have := HV.out; omega)), HB.out⟩
  ·have hltz : ¬ (i : Int) < (j : Int) := by omega
   obtain rfl : i = j := by omega
   obtain ⟨wq, hwq⟩ : ∃ x, x = wr := ⟨_, rfl⟩
   subst hwq
   go_wp2
   go_loopg [17] (m - i) (fun kx s17 wr => ∃ (q : Nat) (dk : Array α), s17 = .int .i64 q ∧ i ≤ q ∧ q ≤ m ∧ q - i ≤ kx ∧ dk.size = d.size ∧ Hid (SWK enc k w0 blk off dk wr) ∧ Hid (RotRes d q m (m + 1) dk) ∧ Hid (PermIn a (m + 1) d dk))
   case atStart => exact ⟨m, d, rfl, by omega, Nat.le_refl _, Nat.le_refl _, rfl, S1, yy519 d m (m + 1), permIn_refl d a (m + 1)⟩
   case round =>
    clear S1
    obtain ⟨q, dk, rfl, hq, hqi, hkx, hds, S1, HRR, HP⟩ := hrel
    by_cases hlt : i < q
    ·have hltz : (i : Int) < (q : Int) := by omega
     obtain ⟨y, hy⟩ : ∃ y, q - 1 = y := ⟨_, rfl⟩
     have ey : (q : Int) - 1 = (y : Int) := by omega
     have eqa : ((q : Int)).toNat = q := by omega
     have eqp : (0 : Int) ≤ (q : Int) := by omega
     have eqb : (q : Int) < (d.size : Int) := by omega
     have eqw : IntKind.i64.wrap ((q : Int)) = (q : Int) := by rw [IntKind.wrap_i64]; omega
     have eya : ((y : Int)).toNat = y := by omega
     have eyp : (0 : Int) ≤ (y : Int) := by omega
     have eyb : (y : Int) < (d.size : Int) := by omega
     have eyw : IntKind.i64.wrap ((y : Int)) = (y : Int) := by rw [IntKind.wrap_i64]; omega
     have S2 : Hid (SWK enc k w0 blk off (swp dk q y) ((wr.drew.setCells blk (off + q * k) (enc dk[y]!)).setCells blk (off + y * k) (enc dk[q]!))) := S1.out.swapped RR.out q y (by omega) (by omega)
     have l44a := S1.out.ld1 RR.out (by omega) P q (by omega)
     have l44b := S1.out.ld1 RR.out (by omega) P y (by omega)
     have s44a := S1.out.st1 RR.out (by omega) P q (by omega) dk[y]!
     have s44b := S1.out.st2 RR.out (by omega) P q y (by omega) (by omega) dk[y]! dk[q]!
     have n44a : (enc dk[q]!).length = k := RR.out.hk _
     have n44b : (enc dk[y]!).length = k := RR.out.hk _
     have hyq : y + 1 = q := by omega
     have HR2 : Hid (RotRes d y m (m + 1) (swp dk q y)) := by
      have := yy696 (d := d) (e := dk) (m := m) (k := y) (by omega) (by omega) (by rw [hyq]; exact HRR.out)
      rwa [hyq] at this
     have HP2 : Hid (PermIn a (m + 1) d (swp dk q y)) := permIn_trans _ _ _ a (m + 1) HP.out (swp_permIn dk a (m + 1) q y (by omega) (by omega) (by omega) (by omega) (by omega))
     have HQ1 : Hid (y + 1 = q) := hyq
     clear hy hyq HRR HP
     generalize enc dk[q]! = cI44 at S2 l44a s44b n44a
     generalize enc dk[y]! = cJ44 at S2 l44b s44a s44b n44b
     clear S1
     go_wp2_with fail
     go_big_region_o
     clear l44a l44b s44a s44b
     generalize (wr.drew.setCells blk (off + q * k) cJ44).setCells blk (off + y * k) cI44 = w2 at S2 ⊢
     go_wp2
     go_roundg (y - i)
     case measure => have := HQ1.out; omega
     case rel => exact ⟨y, swp dk q y, by first | rfl | simp, by have := HQ1.out; omega, by have := HQ1.out; omega, Nat.le_refl _, by rw [swp_size]; exact hds, S2, HR2, HP2⟩
    ·have hltz : ¬ (i : Int) < (q : Int) := by omega
     obtain rfl : i = q := by omega
     go_wp2
     (try simp only [Exit.inBlock, Exit.then])
     refine bodyPost_ret (results_none rfl _ _ _) rfl ?_
     have h2 := H2.out
     subst h2
     exact ⟨rfl, dk, S1.out, HP.out, yy442 HRR.out hi (by omega) HL.out HA.out HB.out⟩
end Go.Proofs.YtjpjdkdbgjipnaaDoor
