/- So many acts, and so much put in by all of them together, may be, and not one more; one edit of each file: it answers true and changes nothing. No condition. (Merged of 3 texts.) -/
import Derived.Test.YtmedaimndaaiiaaMAwk
import Derived.Test.YtmedaimndaaiiaaMArg
import Derived.ChangeMaps5
/- So many acts may be, and so much put in, and not one more: what Check says of made acts. No condition. -/
namespace Go.Proofs.Ytmedaimndaaiiaa

def rmA (k : Nat) : ActV := ⟨2, (k : Int) + 1, 0, [], false, none, 0, []⟩
def rms (n : Nat) : List ActV := (List.range n).map rmA
theorem rms_length (n : Nat) : (rms n).length = n := by simp [rms]
theorem rms_zero : rms 0 = [] := rfl
theorem rms_succ (n : Nat) : rms (n + 1) = rms n ++ [rmA n] := by simp [rms, List.range_succ]
theorem rmA_ok {k : Nat} (hk : k < 1000) : ¬ ABad (rmA k) := by
  have e1 : (rmA k).kind = 2 := rfl
  have e2 : (rmA k).id = (k : Int) + 1 := rfl
  have e3 : (rmA k).parent = 0 := rfl
  rintro (h | h | h | h | h | h | h | h)
  · rw [e1] at h; omega
  · rw [e1] at h; omega
  · exact h (by rw [aPlain_2 rfl]; rfl)
  · rw [e2] at h; omega
  · rw [e2] at h; omega
  · rw [e3] at h; omega
  · rw [e3] at h; omega
  · rcases h.1 with g | g
    · rw [e1] at g; omega
    · rw [e1] at g; omega
theorem chkR_skips : ∀ {l pre : List ActV} {N : Nat}, (∀ a ∈ l, ¬ ABad a ∧ a.kind ≠ 4) → ¬ 2000 < N → chkR pre l N = 0
  | [], _, _, _, hN => chkR_end hN
  | a :: l, pre, N, h, hN => by
    rw [chkR_skip (h a (by simp)).1 (h a (by simp)).2]
    exact chkR_skips (fun b hb => h b (by simp [hb])) hN
theorem chk_rms {n : Nat} (hn : n ≤ 20) : rChk (rms n) = 0 := by
  rw [rChk_fit (by rw [rms_length]; omega)]
  refine chkR_skips (fun a ha => ?_) (by omega)
  obtain ⟨k, hk, rfl⟩ := List.mem_map.1 ha
  have := List.mem_range.1 hk
  exact ⟨rmA_ok (by omega), by show (2 : Int) ≠ 4; decide⟩
theorem chk_rms_big {n : Nat} (hn : 20 < n) : rChk (rms n) = 3 := rChk_big (by rw [rms_length]; exact hn)
def edA (id : Int) (A : Option Go.Addr) (t : List Nat) : ActV := ⟨4, id, 0, [], false, A, 1, [⟨2, 0, t⟩]⟩
theorem edA_ok {id : Int} (h1 : 1 ≤ id) (h2 : id ≤ 1099511627776) (A : Option Go.Addr) (t : List Nat) : ¬ ABad (edA id A t) := by
  have e1 : (edA id A t).kind = 4 := rfl
  have e2 : (edA id A t).id = id := rfl
  have e3 : (edA id A t).parent = 0 := rfl
  rintro (h | h | h | h | h | h | h | h)
  · rw [e1] at h; omega
  · rw [e1] at h; omega
  · exact h (by rw [aPlain_4 rfl]; rfl)
  · rw [e2] at h; omega
  · rw [e2] at h; omega
  · rw [e3] at h; omega
  · rw [e3] at h; omega
  · rcases h.1 with g | g
    · rw [e1] at g; omega
    · rw [e1] at g; omega
theorem insT_one {t : List Nat} (h : ∀ x ∈ t, x < 123 ∧ 97 ≤ x) : insT [⟨2, 0, t⟩] = t.length := by
  simp [insT, cps_of (V_letters h)]
section
variable {s t : List Nat} (hs : ∀ x ∈ s, x < 123 ∧ 97 ≤ x) (ht : ∀ x ∈ t, x < 123 ∧ 97 ≤ x) (s0 : s ≠ []) (t0 : t ≠ []) (sl : s.length ≤ 1500) (tl : t.length ≤ 1500)
include hs ht s0 t0 sl tl
theorem two_more (A B : Option Go.Addr) : rChk [edA 1 A s, edA 2 B t] = chkR [edA 1 A s, edA 2 B t] [] (s.length + t.length) := by
  rw [rChk_fit (by simp), chkR_more (edA_ok (by omega) (by omega) A s) rfl (ins_ok hs s0 (by omega)).check (by simp), chkR_more (edA_ok (by omega) (by omega) B t) rfl (ins_ok ht t0 (by omega)).check (by
    rintro ⟨x, hx, _, h⟩
    rw [List.nil_append, List.mem_singleton] at hx
    rw [hx] at h
    exact absurd h (by show ¬ (1 : Int) = 2; decide))]
  show chkR _ [] (0 + insT [⟨2, 0, s⟩] + insT [⟨2, 0, t⟩]) = _
  rw [insT_one hs, insT_one ht, Nat.zero_add]
  rfl
theorem two_fit (A B : Option Go.Addr) (h : s.length + t.length ≤ 2000) : rChk [edA 1 A s, edA 2 B t] = 0 := by
  rw [two_more hs ht s0 t0 sl tl, chkR_end (by omega)]
theorem two_big (A B : Option Go.Addr) (h : 2000 < s.length + t.length) : rChk [edA 1 A s, edA 2 B t] = 3 := by
  rw [two_more hs ht s0 t0 sl tl, chkR_big h]
theorem two_same (A B : Option Go.Addr) : rChk [edA 1 A s, edA 1 B t] = 1 := by
  rw [rChk_fit (by simp), chkR_more (edA_ok (by omega) (by omega) A s) rfl (ins_ok hs s0 (by omega)).check (by simp), chkR_twice (edA_ok (by omega) (by omega) B t) rfl (ins_ok ht t0 (by omega)).check ⟨edA 1 A s, by simp, rfl, rfl⟩]
end
def upA : ActV := ⟨2, 1, 0, [97], false, none, 0, []⟩
def noA : ActV := ⟨2, 0, 0, [], false, none, 0, []⟩
theorem chk_up : rChk [upA] = 1 := by
  rw [rChk_fit (by simp), chkR_bad (.inr (.inr (.inl (by rw [aPlain_2 rfl]; intro e; simp [aKey, upA] at e))))]
theorem chk_no : rChk [noA] = 1 := by
  rw [rChk_fit (by simp), chkR_bad (.inr (.inr (.inr (.inl (by decide)))))]
end Go.Proofs.Ytmedaimndaaiiaa

/- So many acts, and so much put in by all of them together, may be, and not one more; one edit of each file: TxnLimits answers true and changes nothing. No condition. -/
namespace Go.Proofs.Ytmedaimndaaiiaa
open Go.RowKit Go.Deep

theorem blks_ne {k : Nat} {n : Int} (h : 1 ≤ k) : blks k n ≠ [] := fun e => by have := congrArg List.length e; rw [blks_length] at this; simp at this; omega
theorem ins_any (p : Nat) (h1 : 1 ≤ p) (h2 : p ≤ 1500) (w : World) : Calls Try.prog 5 #[.int .i64 (p : Int)] w fun e w' => ∃ A, e = .returned (.slice A 1 1) ∧ CompsAt w' A [⟨2, 0, blks p 1⟩] ∧ Below w.heap.size w w' := by
  have GB := Lib.hid (fun X => blocks_any p (by omega) 1 X)
  generalize blks p 1 = T at GB ⊢
  go_enter Try.func5, Try.ntmps5
  go_wp2_with fail
  refine (GB.out _).mono ?_
  rintro e x1 ⟨rfl, hb⟩
  have HC : Hid (CompsAt (x1.alloc (.cells #[.int .i64 2, .int .i64 0, .string (bstr T)] 29)) (some ⟨x1.heap.size, 0, none⟩) [⟨2, 0, T⟩]) := Lib.hid (CellsAt.lit (fun j v h => by rw [← Array.getElem?_toList]; exact h) rfl)
  go_wp2
  go_ret
  exact ⟨_, rfl, HC.out, hb.alloc hb.size _⟩
theorem acts_ed2 (x : World) (i1 i2 : Int) {s t : List Nat} (A B : Option Addr) (hA : CompsAt x A [⟨2, 0, s⟩]) (hB : CompsAt x B [⟨2, 0, t⟩]) : ActsAt (x.alloc (.cells #[.int .i64 4, .int .i64 i1, .int .i64 0, .string { data := #[] }, .bool false, .slice A 1 1, .int .i64 4, .int .i64 i2, .int .i64 0, .string { data := #[] }, .bool false, .slice B 1 1] 26)) (some ⟨x.heap.size, 0, none⟩) [edA i1 A s, edA i2 B t] := by
  refine ⟨CellsAt.lit (fun j v h => by rw [← Array.getElem?_toList]; exact h) rfl, fun y hy => ?_⟩
  have hy' : y = edA i1 A s ∨ y = edA i2 B t := by simpa using hy
  rcases hy' with rfl | rfl
  · exact CompsAt.below hA ((Below.refl _ _).alloc (Nat.le_refl _) _)
  · exact CompsAt.below hB ((Below.refl _ _).alloc (Nat.le_refl _) _)
theorem acts_up (x : World) : ActsAt (x.alloc (.cells #[.int .i64 2, .int .i64 1, .int .i64 0, .string { data := #[97] }, .bool false, .slice none 0 0] 26)) (some ⟨x.heap.size, 0, none⟩) [upA] := by
  refine ⟨CellsAt.lit (fun j v h => by rw [← Array.getElem?_toList]; exact h) rfl, fun y hy => ?_⟩
  rw [List.mem_singleton.1 hy]
  exact .inl rfl
theorem acts_no (x : World) : ActsAt (x.alloc (.cells #[.int .i64 2, .int .i64 0, .int .i64 0, .string { data := #[] }, .bool false, .slice none 0 0] 26)) (some ⟨x.heap.size, 0, none⟩) [noA] := by
  refine ⟨CellsAt.lit (fun j v h => by rw [← Array.getElem?_toList]; exact h) rfl, fun y hy => ?_⟩
  rw [List.mem_singleton.1 hy]
  exact .inl rfl
theorem rms_acts {w : World} {A : Option Addr} {n : Nat} (h : ActRow w A (rms n)) : ActsAt w A (rms n) := ⟨h, fun y hy => by
  obtain ⟨k, _, rfl⟩ := List.mem_map.1 hy
  exact .inl rfl⟩
theorem rms_good {n : Nat} (hn : n ≤ 22) : ∀ a ∈ rms n, ActOk a := fun a ha => by
  obtain ⟨k, hk, rfl⟩ := List.mem_map.1 ha
  have := List.mem_range.1 hk
  exact act_cells_good (rmA k) (by simp [rmA]) (by simp [rmA]) (by show Fit64 2; unfold Fit64; omega) (by show Fit64 ((k : Int) + 1); unfold Fit64; omega) (by show Fit64 0; unfold Fit64; omega) ⟨rfl, rfl⟩
theorem upA_good : ActOk upA := act_cells_good upA (by simp [upA]) (by simp [upA]) (by show Fit64 2; unfold Fit64; omega) (by show Fit64 1; unfold Fit64; omega) (by show Fit64 0; unfold Fit64; omega) ⟨rfl, rfl⟩
theorem noA_good : ActOk noA := act_cells_good noA (by simp [noA]) (by simp [noA]) (by show Fit64 2; unfold Fit64; omega) (by show Fit64 0; unfold Fit64; omega) (by show Fit64 0; unfold Fit64; omega) ⟨rfl, rfl⟩
theorem edA_good {id : Int} (h : 1 ≤ id ∧ id ≤ 2) {t : List Nat} (hl : t.length ≤ 1500) (hb : ∀ x ∈ t, x < 123 ∧ 97 ≤ x) (A : Option Addr) : ActOk (edA id A t) := actOk_one (k := 4) (id := id) (p := 0) (d := false) (A := A) (c := ⟨2, 0, t⟩) (by unfold Fit64; omega) (by unfold Fit64; omega) (by unfold Fit64; omega) ⟨by show Fit64 2; unfold Fit64; omega, by show Fit64 0; unfold Fit64; omega, fun x hx => by have := hb x hx; omega, by show t.length ≤ _; unfold maxLen; omega⟩ (by show t.length ≤ _; omega)
theorem ed2_good {i1 i2 : Int} (h1 : 1 ≤ i1 ∧ i1 ≤ 2) (h2 : 1 ≤ i2 ∧ i2 ≤ 2) {s t : List Nat} (hs : s.length ≤ 1500) (ht : t.length ≤ 1500) (bs : ∀ x ∈ s, x < 123 ∧ 97 ≤ x) (bt : ∀ x ∈ t, x < 123 ∧ 97 ≤ x) {A B : Option Addr} : ∀ a ∈ [edA i1 A s, edA i2 B t], ActOk a := fun a ha => by
  have ha' : a = edA i1 A s ∨ a = edA i2 B t := by simpa using ha
  rcases ha' with rfl | rfl
  · exact edA_good h1 hs bs A
  · exact edA_good h2 ht bt B
set_option maxHeartbeats 8000000 in
set_option maxRecDepth 100000 in
theorem txnLimits_any (n a b : Int) (hn : -9223372036854775808 ≤ n ∧ n ≤ 9223372036854775807) (ha : -9223372036854775808 ≤ a ∧ a ≤ 9223372036854775807) (hb : -9223372036854775808 ≤ b ∧ b ≤ 9223372036854775807) (w : World) :
    Calls Try.prog 3 #[.int .i64 n, .int .i64 a, .int .i64 b] w fun e w' => e = .returned (.bool true) ∧ Below w.heap.size w w' := by
  have GA := Lib.hid (fun w => tawake_any w)
  by_cases c0 : n < 0
  · skip
    go_enter Try.func3, Try.ntmps3
    go_wp2_with fail
    refine (GA.out _).mono ?_
    rintro e x1 ⟨rfl, hb⟩
    go_wp2
    go_ret
    exact ⟨rfl, hb⟩
  by_cases c1 : 22 < n
  · skip
    go_enter Try.func3, Try.ntmps3
    go_wp2_with fail
    refine (GA.out _).mono ?_
    rintro e x1 ⟨rfl, hb⟩
    go_wp2
    go_ret
    exact ⟨rfl, hb⟩
  by_cases c2 : a < 1
  · skip
    go_enter Try.func3, Try.ntmps3
    go_wp2_with fail
    refine (GA.out _).mono ?_
    rintro e x1 ⟨rfl, hb⟩
    go_wp2
    go_ret
    exact ⟨rfl, hb⟩
  by_cases c3 : 1500 < a
  · skip
    go_enter Try.func3, Try.ntmps3
    go_wp2_with fail
    refine (GA.out _).mono ?_
    rintro e x1 ⟨rfl, hb⟩
    go_wp2
    go_ret
    exact ⟨rfl, hb⟩
  by_cases c4 : b < 1
  · skip
    go_enter Try.func3, Try.ntmps3
    go_wp2_with fail
    refine (GA.out _).mono ?_
    rintro e x1 ⟨rfl, hb⟩
    go_wp2
    go_ret
    exact ⟨rfl, hb⟩
  by_cases c5 : 1500 < b
  · skip
    go_enter Try.func3, Try.ntmps3
    go_wp2_with fail
    refine (GA.out _).mono ?_
    rintro e x1 ⟨rfl, hb⟩
    go_wp2
    go_ret
    exact ⟨rfl, hb⟩
  obtain ⟨N, rfl⟩ : ∃ N : Nat, n = (N : Int) := ⟨n.toNat, by omega⟩
  obtain ⟨p, rfl⟩ : ∃ p : Nat, a = (p : Int) := ⟨a.toNat, by omega⟩
  obtain ⟨q, rfl⟩ : ∃ q : Nat, b = (q : Int) := ⟨b.toNat, by omega⟩
  have GI := Lib.hid (fun (p : Nat) (h1 : 1 ≤ p) (h2 : p ≤ 1500) (X : World) => ins_any p h1 h2 X)
  have GI1 : Hid (∀ X : World, Calls Try.prog 5 #[.int .i64 1] X fun e w' => ∃ A, e = .returned (.slice A 1 1) ∧ CompsAt w' A [⟨2, 0, blks 1 1⟩] ∧ Below X.heap.size X w') := Lib.hid (fun X => ins_any 1 (by omega) (by omega) X)
  have GU : Hid (∀ (X : World) (g : Nat), ActsAt X (some ⟨g, 0, none⟩) [upA] → Calls Try.prog 7 #[.slice (some ⟨g, 0, none⟩) 1 1] X fun e w' => e = .returned (.int .i64 1) ∧ Below X.heap.size X w') := Lib.hid (fun X g h => by
    have := txnCheck_any (some ⟨g, 0, none⟩) 1 [upA] (by simp [maxLen]) (by simp) (fun x hx => by rw [List.mem_singleton.1 hx]; exact upA_good) X h
    rw [chk_up] at this
    exact this)
  have GU2 : Hid (∀ (X : World) (g : Nat), ActsAt X (some ⟨g, 0, none⟩) [noA] → Calls Try.prog 7 #[.slice (some ⟨g, 0, none⟩) 1 1] X fun e w' => e = .returned (.int .i64 1) ∧ Below X.heap.size X w') := Lib.hid (fun X g h => by
    have := txnCheck_any (some ⟨g, 0, none⟩) 1 [noA] (by simp [maxLen]) (by simp) (fun x hx => by rw [List.mem_singleton.1 hx]; exact noA_good) X h
    rw [chk_no] at this
    exact this)
  by_cases h20 : 20 < N
  · have h20I : (20 : Int) < (N : Int) := by omega
    by_cases hb2 : 2000 < p + q
    · have hbI : (2000 : Int) < (p : Int) + (q : Int) := by omega
      go_enter Try.func3, Try.ntmps3
      go_wp2_with fail
      go_loopw [7, 8] (fun s7 s8 wr => ∃ (k : Nat) (A1 : Option Addr) (cc : Nat), k ≤ N ∧ s7 = .slice A1 (rms k).length cc ∧ s8 = .int .i64 (k : Int) ∧ Hid (OwnA wr w.heap.size A1 cc (rms k)) ∧ Hid (Below w.heap.size w wr)) (fun _ s8 _ => N - (intOf s8).toNat)
      case atStart => exact ⟨0, none, 0, Nat.zero_le _, rfl, rfl, Lib.hid (OwnA.nil _ _), Lib.hid (Below.refl _ _)⟩
      case round =>
        obtain ⟨k, A1, cc, hk, rfl, rfl, HO, HB⟩ := hrel
        by_cases hlt : k < N
        · have hlI : (k : Int) < (N : Int) := by omega
          have hsz := HB.out.size
          go_wp2_with (at_builtin
                       refine wpList_acts_app rfl (.tmp 42) (.tmp 46) rfl (B := w.heap.size) (out := rms k) (m := [rmA k]) (HO.out.alloc (.cells (actCells (rmA k)).toArray 26)) (by simp; omega) 1 (actn_lit wr (rmA k) _ rfl) (by simp [rms_length]; omega) rfl rfl ?_
                       intro A2 c2 w2 hown hbel
                       have HO2 := Lib.hid hown
                       have HB2 := Lib.hid ((HB.out.alloc HB.out.size (.cells (actCells (rmA k)).toArray 26)).trans hbel)
                       clear hown hbel)
          go_roundw
          case rel => exact ⟨k + 1, A2, c2, by omega, by rw [rms_succ, List.length_append]; rfl, by go_num, by rw [rms_succ]; exact HO2, HB2⟩
          case measure => simp [intOf]; omega
        · obtain rfl : k = N := by omega
          obtain ⟨w3, hw3⟩ : ∃ y, y = wr := ⟨wr, rfl⟩
          subst hw3
          have HLA : Hid (ActsAt w3 A1 (rms k)) := Lib.hid (rms_acts HO.out.at_)
          have HCAP := Lib.hid HO.out.cap
          have hlen := rms_length k
          clear HO
          go_wp2_with fail
          refine (GI.out p (by omega) (by omega) _).mono ?_
          rintro e x4 ⟨A4, rfl, hc, hb⟩
          have HC4 := Lib.hid hc
          replace HLA := Lib.hid (HLA.out.below hb)
          replace HB := Lib.hid (HB.out.trans (hb.mono HB.out.size))
          clear hb
          clear hc
          go_wp2_with fail
          refine (GI.out q (by omega) (by omega) _).mono ?_
          rintro e x5 ⟨A5, rfl, hc, hb⟩
          have HC5 := Lib.hid hc
          replace HLA := Lib.hid (HLA.out.below hb)
          replace HC4 := Lib.hid (HC4.out.below hb)
          replace HB := Lib.hid (HB.out.trans (hb.mono HB.out.size))
          clear hb
          clear hc
          have HTW := Lib.hid (acts_ed2 x5 1 2 A4 A5 HC4.out HC5.out)
          have hb := (Below.refl x5.heap.size x5).alloc (Nat.le_refl _) (.cells #[.int .i64 4, .int .i64 1, .int .i64 0, .string { data := #[] }, .bool false, .slice A4 1 1, .int .i64 4, .int .i64 2, .int .i64 0, .string { data := #[] }, .bool false, .slice A5 1 1] 26)
          replace HLA := Lib.hid (HLA.out.below hb)
          replace HB := Lib.hid (HB.out.trans (hb.mono HB.out.size))
          clear hb
          clear HC4 HC5
          go_wp2_with fail
          refine (GI1.out _).mono ?_
          rintro e x6 ⟨A6, rfl, hc, hb⟩
          have HC6 := Lib.hid hc
          replace HLA := Lib.hid (HLA.out.below hb)
          replace HTW := Lib.hid (HTW.out.below hb)
          replace HB := Lib.hid (HB.out.trans (hb.mono HB.out.size))
          clear hb
          clear hc
          go_wp2_with fail
          refine (GI1.out _).mono ?_
          rintro e x7 ⟨A7, rfl, hc, hb⟩
          have HC7 := Lib.hid hc
          replace HLA := Lib.hid (HLA.out.below hb)
          replace HTW := Lib.hid (HTW.out.below hb)
          replace HC6 := Lib.hid (HC6.out.below hb)
          replace HB := Lib.hid (HB.out.trans (hb.mono HB.out.size))
          clear hb
          clear hc
          have HSM := Lib.hid (acts_ed2 x7 1 1 A6 A7 HC6.out HC7.out)
          have hb := (Below.refl x7.heap.size x7).alloc (Nat.le_refl _) (.cells #[.int .i64 4, .int .i64 1, .int .i64 0, .string { data := #[] }, .bool false, .slice A6 1 1, .int .i64 4, .int .i64 1, .int .i64 0, .string { data := #[] }, .bool false, .slice A7 1 1] 26)
          replace HLA := Lib.hid (HLA.out.below hb)
          replace HTW := Lib.hid (HTW.out.below hb)
          replace HB := Lib.hid (HB.out.trans (hb.mono HB.out.size))
          clear hb
          clear HC6 HC7
          have GK1 := Lib.hid (fun X (h : ActsAt X A1 (rms k)) => txnCheck_any A1 cc (rms k) (by rw [rms_length]; unfold maxLen; omega) HCAP.out (rms_good (by omega)) X h)
          rw [chk_rms_big (by omega), rms_length] at GK1
          have GK2 := Lib.hid (fun X g (h : ActsAt X (some ⟨g, 0, none⟩) [edA 1 A4 (blks p 1), edA 2 A5 (blks q 1)]) => txnCheck_any (some ⟨g, 0, none⟩) 2 [edA 1 A4 (blks p 1), edA 2 A5 (blks q 1)] (by simp [maxLen]) (by simp) (ed2_good (by omega) (by omega) (by rw [blks_length]; omega) (by rw [blks_length]; omega) (blks_lt p 1) (blks_lt q 1)) X h)
          rw [two_big (blks_lt p 1) (blks_lt q 1) (blks_ne (by omega)) (blks_ne (by omega)) (by rw [blks_length]; omega) (by rw [blks_length]; omega) _ _ (by rw [blks_length, blks_length]; omega)] at GK2
          have GK3 := Lib.hid (fun X g (h : ActsAt X (some ⟨g, 0, none⟩) [edA 1 A6 (blks 1 1), edA 1 A7 (blks 1 1)]) => txnCheck_any (some ⟨g, 0, none⟩) 2 [edA 1 A6 (blks 1 1), edA 1 A7 (blks 1 1)] (by simp [maxLen]) (by simp) (ed2_good (by omega) (by omega) (by rw [blks_length]; omega) (by rw [blks_length]; omega) (blks_lt 1 1) (blks_lt 1 1)) X h)
          rw [two_same (blks_lt 1 1) (blks_lt 1 1) (blks_ne (by omega)) (blks_ne (by omega)) (by rw [blks_length]; omega) (by rw [blks_length]; omega)] at GK3
          rw [List.length_cons, List.length_singleton] at GK2 GK3
          go_wp2_with fail
          refine (GK1.out _ HLA.out).mono ?_
          rintro e x8 ⟨rfl, hb⟩
          replace HTW := Lib.hid (HTW.out.below hb)
          replace HSM := Lib.hid (HSM.out.below hb)
          replace HB := Lib.hid (HB.out.trans (hb.mono HB.out.size))
          clear hb
          go_wp2_with fail
          refine (GK2.out _ _ HTW.out).mono ?_
          rintro e x9 ⟨rfl, hb⟩
          replace HSM := Lib.hid (HSM.out.below hb)
          replace HB := Lib.hid (HB.out.trans (hb.mono HB.out.size))
          clear hb
          go_wp2_with fail
          refine (GK3.out _ _ HSM.out).mono ?_
          rintro e x10 ⟨rfl, hb⟩
          replace HB := Lib.hid (HB.out.trans (hb.mono HB.out.size))
          clear hb
          have HU := Lib.hid (acts_up x10)
          have hb := (Below.refl x10.heap.size x10).alloc (Nat.le_refl _) (.cells #[.int .i64 2, .int .i64 1, .int .i64 0, .string { data := #[97] }, .bool false, .slice none 0 0] 26)
          replace HB := Lib.hid (HB.out.trans (hb.mono HB.out.size))
          clear hb
          go_wp2_with fail
          refine (GU.out _ _ HU.out).mono ?_
          rintro e x11 ⟨rfl, hb⟩
          replace HB := Lib.hid (HB.out.trans (hb.mono HB.out.size))
          clear hb
          have HU2 := Lib.hid (acts_no x11)
          have hb := (Below.refl x11.heap.size x11).alloc (Nat.le_refl _) (.cells #[.int .i64 2, .int .i64 0, .int .i64 0, .string { data := #[] }, .bool false, .slice none 0 0] 26)
          replace HB := Lib.hid (HB.out.trans (hb.mono HB.out.size))
          clear hb
          go_wp2_with fail
          refine (GU2.out _ _ HU2.out).mono ?_
          rintro e x12 ⟨rfl, hb⟩
          replace HB := Lib.hid (HB.out.trans (hb.mono HB.out.size))
          clear hb
          go_wp2_with fail
          refine (GA.out _).mono ?_
          rintro e x13 ⟨rfl, hb⟩
          replace HB := Lib.hid (HB.out.trans (hb.mono HB.out.size))
          clear hb
          go_wp2
          go_ret
          exact ⟨rfl, HB.out⟩
    · have hbI : ¬ (2000 : Int) < (p : Int) + (q : Int) := by omega
      go_enter Try.func3, Try.ntmps3
      go_wp2_with fail
      go_loopw [7, 8] (fun s7 s8 wr => ∃ (k : Nat) (A1 : Option Addr) (cc : Nat), k ≤ N ∧ s7 = .slice A1 (rms k).length cc ∧ s8 = .int .i64 (k : Int) ∧ Hid (OwnA wr w.heap.size A1 cc (rms k)) ∧ Hid (Below w.heap.size w wr)) (fun _ s8 _ => N - (intOf s8).toNat)
      case atStart => exact ⟨0, none, 0, Nat.zero_le _, rfl, rfl, Lib.hid (OwnA.nil _ _), Lib.hid (Below.refl _ _)⟩
      case round =>
        obtain ⟨k, A1, cc, hk, rfl, rfl, HO, HB⟩ := hrel
        by_cases hlt : k < N
        · have hlI : (k : Int) < (N : Int) := by omega
          have hsz := HB.out.size
          go_wp2_with (at_builtin
                       refine wpList_acts_app rfl (.tmp 42) (.tmp 46) rfl (B := w.heap.size) (out := rms k) (m := [rmA k]) (HO.out.alloc (.cells (actCells (rmA k)).toArray 26)) (by simp; omega) 1 (actn_lit wr (rmA k) _ rfl) (by simp [rms_length]; omega) rfl rfl ?_
                       intro A2 c2 w2 hown hbel
                       have HO2 := Lib.hid hown
                       have HB2 := Lib.hid ((HB.out.alloc HB.out.size (.cells (actCells (rmA k)).toArray 26)).trans hbel)
                       clear hown hbel)
          go_roundw
          case rel => exact ⟨k + 1, A2, c2, by omega, by rw [rms_succ, List.length_append]; rfl, by go_num, by rw [rms_succ]; exact HO2, HB2⟩
          case measure => simp [intOf]; omega
        · obtain rfl : k = N := by omega
          obtain ⟨w3, hw3⟩ : ∃ y, y = wr := ⟨wr, rfl⟩
          subst hw3
          have HLA : Hid (ActsAt w3 A1 (rms k)) := Lib.hid (rms_acts HO.out.at_)
          have HCAP := Lib.hid HO.out.cap
          have hlen := rms_length k
          clear HO
          go_wp2_with fail
          refine (GI.out p (by omega) (by omega) _).mono ?_
          rintro e x4 ⟨A4, rfl, hc, hb⟩
          have HC4 := Lib.hid hc
          replace HLA := Lib.hid (HLA.out.below hb)
          replace HB := Lib.hid (HB.out.trans (hb.mono HB.out.size))
          clear hb
          clear hc
          go_wp2_with fail
          refine (GI.out q (by omega) (by omega) _).mono ?_
          rintro e x5 ⟨A5, rfl, hc, hb⟩
          have HC5 := Lib.hid hc
          replace HLA := Lib.hid (HLA.out.below hb)
          replace HC4 := Lib.hid (HC4.out.below hb)
          replace HB := Lib.hid (HB.out.trans (hb.mono HB.out.size))
          clear hb
          clear hc
          have HTW := Lib.hid (acts_ed2 x5 1 2 A4 A5 HC4.out HC5.out)
          have hb := (Below.refl x5.heap.size x5).alloc (Nat.le_refl _) (.cells #[.int .i64 4, .int .i64 1, .int .i64 0, .string { data := #[] }, .bool false, .slice A4 1 1, .int .i64 4, .int .i64 2, .int .i64 0, .string { data := #[] }, .bool false, .slice A5 1 1] 26)
          replace HLA := Lib.hid (HLA.out.below hb)
          replace HB := Lib.hid (HB.out.trans (hb.mono HB.out.size))
          clear hb
          clear HC4 HC5
          go_wp2_with fail
          refine (GI1.out _).mono ?_
          rintro e x6 ⟨A6, rfl, hc, hb⟩
          have HC6 := Lib.hid hc
          replace HLA := Lib.hid (HLA.out.below hb)
          replace HTW := Lib.hid (HTW.out.below hb)
          replace HB := Lib.hid (HB.out.trans (hb.mono HB.out.size))
          clear hb
          clear hc
          go_wp2_with fail
          refine (GI1.out _).mono ?_
          rintro e x7 ⟨A7, rfl, hc, hb⟩
          have HC7 := Lib.hid hc
          replace HLA := Lib.hid (HLA.out.below hb)
          replace HTW := Lib.hid (HTW.out.below hb)
          replace HC6 := Lib.hid (HC6.out.below hb)
          replace HB := Lib.hid (HB.out.trans (hb.mono HB.out.size))
          clear hb
          clear hc
          have HSM := Lib.hid (acts_ed2 x7 1 1 A6 A7 HC6.out HC7.out)
          have hb := (Below.refl x7.heap.size x7).alloc (Nat.le_refl _) (.cells #[.int .i64 4, .int .i64 1, .int .i64 0, .string { data := #[] }, .bool false, .slice A6 1 1, .int .i64 4, .int .i64 1, .int .i64 0, .string { data := #[] }, .bool false, .slice A7 1 1] 26)
          replace HLA := Lib.hid (HLA.out.below hb)
          replace HTW := Lib.hid (HTW.out.below hb)
          replace HB := Lib.hid (HB.out.trans (hb.mono HB.out.size))
          clear hb
          clear HC6 HC7
          have GK1 := Lib.hid (fun X (h : ActsAt X A1 (rms k)) => txnCheck_any A1 cc (rms k) (by rw [rms_length]; unfold maxLen; omega) HCAP.out (rms_good (by omega)) X h)
          rw [chk_rms_big (by omega), rms_length] at GK1
          have GK2 := Lib.hid (fun X g (h : ActsAt X (some ⟨g, 0, none⟩) [edA 1 A4 (blks p 1), edA 2 A5 (blks q 1)]) => txnCheck_any (some ⟨g, 0, none⟩) 2 [edA 1 A4 (blks p 1), edA 2 A5 (blks q 1)] (by simp [maxLen]) (by simp) (ed2_good (by omega) (by omega) (by rw [blks_length]; omega) (by rw [blks_length]; omega) (blks_lt p 1) (blks_lt q 1)) X h)
          rw [two_fit (blks_lt p 1) (blks_lt q 1) (blks_ne (by omega)) (blks_ne (by omega)) (by rw [blks_length]; omega) (by rw [blks_length]; omega) _ _ (by rw [blks_length, blks_length]; omega)] at GK2
          have GK3 := Lib.hid (fun X g (h : ActsAt X (some ⟨g, 0, none⟩) [edA 1 A6 (blks 1 1), edA 1 A7 (blks 1 1)]) => txnCheck_any (some ⟨g, 0, none⟩) 2 [edA 1 A6 (blks 1 1), edA 1 A7 (blks 1 1)] (by simp [maxLen]) (by simp) (ed2_good (by omega) (by omega) (by rw [blks_length]; omega) (by rw [blks_length]; omega) (blks_lt 1 1) (blks_lt 1 1)) X h)
          rw [two_same (blks_lt 1 1) (blks_lt 1 1) (blks_ne (by omega)) (blks_ne (by omega)) (by rw [blks_length]; omega) (by rw [blks_length]; omega)] at GK3
          rw [List.length_cons, List.length_singleton] at GK2 GK3
          go_wp2_with fail
          refine (GK1.out _ HLA.out).mono ?_
          rintro e x8 ⟨rfl, hb⟩
          replace HTW := Lib.hid (HTW.out.below hb)
          replace HSM := Lib.hid (HSM.out.below hb)
          replace HB := Lib.hid (HB.out.trans (hb.mono HB.out.size))
          clear hb
          go_wp2_with fail
          refine (GK2.out _ _ HTW.out).mono ?_
          rintro e x9 ⟨rfl, hb⟩
          replace HSM := Lib.hid (HSM.out.below hb)
          replace HB := Lib.hid (HB.out.trans (hb.mono HB.out.size))
          clear hb
          go_wp2_with fail
          refine (GK3.out _ _ HSM.out).mono ?_
          rintro e x10 ⟨rfl, hb⟩
          replace HB := Lib.hid (HB.out.trans (hb.mono HB.out.size))
          clear hb
          have HU := Lib.hid (acts_up x10)
          have hb := (Below.refl x10.heap.size x10).alloc (Nat.le_refl _) (.cells #[.int .i64 2, .int .i64 1, .int .i64 0, .string { data := #[97] }, .bool false, .slice none 0 0] 26)
          replace HB := Lib.hid (HB.out.trans (hb.mono HB.out.size))
          clear hb
          go_wp2_with fail
          refine (GU.out _ _ HU.out).mono ?_
          rintro e x11 ⟨rfl, hb⟩
          replace HB := Lib.hid (HB.out.trans (hb.mono HB.out.size))
          clear hb
          have HU2 := Lib.hid (acts_no x11)
          have hb := (Below.refl x11.heap.size x11).alloc (Nat.le_refl _) (.cells #[.int .i64 2, .int .i64 0, .int .i64 0, .string { data := #[] }, .bool false, .slice none 0 0] 26)
          replace HB := Lib.hid (HB.out.trans (hb.mono HB.out.size))
          clear hb
          go_wp2_with fail
          refine (GU2.out _ _ HU2.out).mono ?_
          rintro e x12 ⟨rfl, hb⟩
          replace HB := Lib.hid (HB.out.trans (hb.mono HB.out.size))
          clear hb
          go_wp2_with fail
          refine (GA.out _).mono ?_
          rintro e x13 ⟨rfl, hb⟩
          replace HB := Lib.hid (HB.out.trans (hb.mono HB.out.size))
          clear hb
          go_wp2
          go_ret
          exact ⟨rfl, HB.out⟩
  · have h20I : ¬ (20 : Int) < (N : Int) := by omega
    by_cases hb2 : 2000 < p + q
    · have hbI : (2000 : Int) < (p : Int) + (q : Int) := by omega
      go_enter Try.func3, Try.ntmps3
      go_wp2_with fail
      go_loopw [7, 8] (fun s7 s8 wr => ∃ (k : Nat) (A1 : Option Addr) (cc : Nat), k ≤ N ∧ s7 = .slice A1 (rms k).length cc ∧ s8 = .int .i64 (k : Int) ∧ Hid (OwnA wr w.heap.size A1 cc (rms k)) ∧ Hid (Below w.heap.size w wr)) (fun _ s8 _ => N - (intOf s8).toNat)
      case atStart => exact ⟨0, none, 0, Nat.zero_le _, rfl, rfl, Lib.hid (OwnA.nil _ _), Lib.hid (Below.refl _ _)⟩
      case round =>
        obtain ⟨k, A1, cc, hk, rfl, rfl, HO, HB⟩ := hrel
        by_cases hlt : k < N
        · have hlI : (k : Int) < (N : Int) := by omega
          have hsz := HB.out.size
          go_wp2_with (at_builtin
                       refine wpList_acts_app rfl (.tmp 42) (.tmp 46) rfl (B := w.heap.size) (out := rms k) (m := [rmA k]) (HO.out.alloc (.cells (actCells (rmA k)).toArray 26)) (by simp; omega) 1 (actn_lit wr (rmA k) _ rfl) (by simp [rms_length]; omega) rfl rfl ?_
                       intro A2 c2 w2 hown hbel
                       have HO2 := Lib.hid hown
                       have HB2 := Lib.hid ((HB.out.alloc HB.out.size (.cells (actCells (rmA k)).toArray 26)).trans hbel)
                       clear hown hbel)
          go_roundw
          case rel => exact ⟨k + 1, A2, c2, by omega, by rw [rms_succ, List.length_append]; rfl, by go_num, by rw [rms_succ]; exact HO2, HB2⟩
          case measure => simp [intOf]; omega
        · obtain rfl : k = N := by omega
          obtain ⟨w3, hw3⟩ : ∃ y, y = wr := ⟨wr, rfl⟩
          subst hw3
          have HLA : Hid (ActsAt w3 A1 (rms k)) := Lib.hid (rms_acts HO.out.at_)
          have HCAP := Lib.hid HO.out.cap
          have hlen := rms_length k
          clear HO
          go_wp2_with fail
          refine (GI.out p (by omega) (by omega) _).mono ?_
          rintro e x4 ⟨A4, rfl, hc, hb⟩
          have HC4 := Lib.hid hc
          replace HLA := Lib.hid (HLA.out.below hb)
          replace HB := Lib.hid (HB.out.trans (hb.mono HB.out.size))
          clear hb
          clear hc
          go_wp2_with fail
          refine (GI.out q (by omega) (by omega) _).mono ?_
          rintro e x5 ⟨A5, rfl, hc, hb⟩
          have HC5 := Lib.hid hc
          replace HLA := Lib.hid (HLA.out.below hb)
          replace HC4 := Lib.hid (HC4.out.below hb)
          replace HB := Lib.hid (HB.out.trans (hb.mono HB.out.size))
          clear hb
          clear hc
          have HTW := Lib.hid (acts_ed2 x5 1 2 A4 A5 HC4.out HC5.out)
          have hb := (Below.refl x5.heap.size x5).alloc (Nat.le_refl _) (.cells #[.int .i64 4, .int .i64 1, .int .i64 0, .string { data := #[] }, .bool false, .slice A4 1 1, .int .i64 4, .int .i64 2, .int .i64 0, .string { data := #[] }, .bool false, .slice A5 1 1] 26)
          replace HLA := Lib.hid (HLA.out.below hb)
          replace HB := Lib.hid (HB.out.trans (hb.mono HB.out.size))
          clear hb
          clear HC4 HC5
          go_wp2_with fail
          refine (GI1.out _).mono ?_
          rintro e x6 ⟨A6, rfl, hc, hb⟩
          have HC6 := Lib.hid hc
          replace HLA := Lib.hid (HLA.out.below hb)
          replace HTW := Lib.hid (HTW.out.below hb)
          replace HB := Lib.hid (HB.out.trans (hb.mono HB.out.size))
          clear hb
          clear hc
          go_wp2_with fail
          refine (GI1.out _).mono ?_
          rintro e x7 ⟨A7, rfl, hc, hb⟩
          have HC7 := Lib.hid hc
          replace HLA := Lib.hid (HLA.out.below hb)
          replace HTW := Lib.hid (HTW.out.below hb)
          replace HC6 := Lib.hid (HC6.out.below hb)
          replace HB := Lib.hid (HB.out.trans (hb.mono HB.out.size))
          clear hb
          clear hc
          have HSM := Lib.hid (acts_ed2 x7 1 1 A6 A7 HC6.out HC7.out)
          have hb := (Below.refl x7.heap.size x7).alloc (Nat.le_refl _) (.cells #[.int .i64 4, .int .i64 1, .int .i64 0, .string { data := #[] }, .bool false, .slice A6 1 1, .int .i64 4, .int .i64 1, .int .i64 0, .string { data := #[] }, .bool false, .slice A7 1 1] 26)
          replace HLA := Lib.hid (HLA.out.below hb)
          replace HTW := Lib.hid (HTW.out.below hb)
          replace HB := Lib.hid (HB.out.trans (hb.mono HB.out.size))
          clear hb
          clear HC6 HC7
          have GK1 := Lib.hid (fun X (h : ActsAt X A1 (rms k)) => txnCheck_any A1 cc (rms k) (by rw [rms_length]; unfold maxLen; omega) HCAP.out (rms_good (by omega)) X h)
          rw [chk_rms (by omega), rms_length] at GK1
          have GK2 := Lib.hid (fun X g (h : ActsAt X (some ⟨g, 0, none⟩) [edA 1 A4 (blks p 1), edA 2 A5 (blks q 1)]) => txnCheck_any (some ⟨g, 0, none⟩) 2 [edA 1 A4 (blks p 1), edA 2 A5 (blks q 1)] (by simp [maxLen]) (by simp) (ed2_good (by omega) (by omega) (by rw [blks_length]; omega) (by rw [blks_length]; omega) (blks_lt p 1) (blks_lt q 1)) X h)
          rw [two_big (blks_lt p 1) (blks_lt q 1) (blks_ne (by omega)) (blks_ne (by omega)) (by rw [blks_length]; omega) (by rw [blks_length]; omega) _ _ (by rw [blks_length, blks_length]; omega)] at GK2
          have GK3 := Lib.hid (fun X g (h : ActsAt X (some ⟨g, 0, none⟩) [edA 1 A6 (blks 1 1), edA 1 A7 (blks 1 1)]) => txnCheck_any (some ⟨g, 0, none⟩) 2 [edA 1 A6 (blks 1 1), edA 1 A7 (blks 1 1)] (by simp [maxLen]) (by simp) (ed2_good (by omega) (by omega) (by rw [blks_length]; omega) (by rw [blks_length]; omega) (blks_lt 1 1) (blks_lt 1 1)) X h)
          rw [two_same (blks_lt 1 1) (blks_lt 1 1) (blks_ne (by omega)) (blks_ne (by omega)) (by rw [blks_length]; omega) (by rw [blks_length]; omega)] at GK3
          rw [List.length_cons, List.length_singleton] at GK2 GK3
          go_wp2_with fail
          refine (GK1.out _ HLA.out).mono ?_
          rintro e x8 ⟨rfl, hb⟩
          replace HTW := Lib.hid (HTW.out.below hb)
          replace HSM := Lib.hid (HSM.out.below hb)
          replace HB := Lib.hid (HB.out.trans (hb.mono HB.out.size))
          clear hb
          go_wp2_with fail
          refine (GK2.out _ _ HTW.out).mono ?_
          rintro e x9 ⟨rfl, hb⟩
          replace HSM := Lib.hid (HSM.out.below hb)
          replace HB := Lib.hid (HB.out.trans (hb.mono HB.out.size))
          clear hb
          go_wp2_with fail
          refine (GK3.out _ _ HSM.out).mono ?_
          rintro e x10 ⟨rfl, hb⟩
          replace HB := Lib.hid (HB.out.trans (hb.mono HB.out.size))
          clear hb
          have HU := Lib.hid (acts_up x10)
          have hb := (Below.refl x10.heap.size x10).alloc (Nat.le_refl _) (.cells #[.int .i64 2, .int .i64 1, .int .i64 0, .string { data := #[97] }, .bool false, .slice none 0 0] 26)
          replace HB := Lib.hid (HB.out.trans (hb.mono HB.out.size))
          clear hb
          go_wp2_with fail
          refine (GU.out _ _ HU.out).mono ?_
          rintro e x11 ⟨rfl, hb⟩
          replace HB := Lib.hid (HB.out.trans (hb.mono HB.out.size))
          clear hb
          have HU2 := Lib.hid (acts_no x11)
          have hb := (Below.refl x11.heap.size x11).alloc (Nat.le_refl _) (.cells #[.int .i64 2, .int .i64 0, .int .i64 0, .string { data := #[] }, .bool false, .slice none 0 0] 26)
          replace HB := Lib.hid (HB.out.trans (hb.mono HB.out.size))
          clear hb
          go_wp2_with fail
          refine (GU2.out _ _ HU2.out).mono ?_
          rintro e x12 ⟨rfl, hb⟩
          replace HB := Lib.hid (HB.out.trans (hb.mono HB.out.size))
          clear hb
          go_wp2_with fail
          refine (GA.out _).mono ?_
          rintro e x13 ⟨rfl, hb⟩
          replace HB := Lib.hid (HB.out.trans (hb.mono HB.out.size))
          clear hb
          go_wp2
          go_ret
          exact ⟨rfl, HB.out⟩
    · have hbI : ¬ (2000 : Int) < (p : Int) + (q : Int) := by omega
      go_enter Try.func3, Try.ntmps3
      go_wp2_with fail
      go_loopw [7, 8] (fun s7 s8 wr => ∃ (k : Nat) (A1 : Option Addr) (cc : Nat), k ≤ N ∧ s7 = .slice A1 (rms k).length cc ∧ s8 = .int .i64 (k : Int) ∧ Hid (OwnA wr w.heap.size A1 cc (rms k)) ∧ Hid (Below w.heap.size w wr)) (fun _ s8 _ => N - (intOf s8).toNat)
      case atStart => exact ⟨0, none, 0, Nat.zero_le _, rfl, rfl, Lib.hid (OwnA.nil _ _), Lib.hid (Below.refl _ _)⟩
      case round =>
        obtain ⟨k, A1, cc, hk, rfl, rfl, HO, HB⟩ := hrel
        by_cases hlt : k < N
        · have hlI : (k : Int) < (N : Int) := by omega
          have hsz := HB.out.size
          go_wp2_with (at_builtin
                       refine wpList_acts_app rfl (.tmp 42) (.tmp 46) rfl (B := w.heap.size) (out := rms k) (m := [rmA k]) (HO.out.alloc (.cells (actCells (rmA k)).toArray 26)) (by simp; omega) 1 (actn_lit wr (rmA k) _ rfl) (by simp [rms_length]; omega) rfl rfl ?_
                       intro A2 c2 w2 hown hbel
                       have HO2 := Lib.hid hown
                       have HB2 := Lib.hid ((HB.out.alloc HB.out.size (.cells (actCells (rmA k)).toArray 26)).trans hbel)
                       clear hown hbel)
          go_roundw
          case rel => exact ⟨k + 1, A2, c2, by omega, by rw [rms_succ, List.length_append]; rfl, by go_num, by rw [rms_succ]; exact HO2, HB2⟩
          case measure => simp [intOf]; omega
        · obtain rfl : k = N := by omega
          obtain ⟨w3, hw3⟩ : ∃ y, y = wr := ⟨wr, rfl⟩
          subst hw3
          have HLA : Hid (ActsAt w3 A1 (rms k)) := Lib.hid (rms_acts HO.out.at_)
          have HCAP := Lib.hid HO.out.cap
          have hlen := rms_length k
          clear HO
          go_wp2_with fail
          refine (GI.out p (by omega) (by omega) _).mono ?_
          rintro e x4 ⟨A4, rfl, hc, hb⟩
          have HC4 := Lib.hid hc
          replace HLA := Lib.hid (HLA.out.below hb)
          replace HB := Lib.hid (HB.out.trans (hb.mono HB.out.size))
          clear hb
          clear hc
          go_wp2_with fail
          refine (GI.out q (by omega) (by omega) _).mono ?_
          rintro e x5 ⟨A5, rfl, hc, hb⟩
          have HC5 := Lib.hid hc
          replace HLA := Lib.hid (HLA.out.below hb)
          replace HC4 := Lib.hid (HC4.out.below hb)
          replace HB := Lib.hid (HB.out.trans (hb.mono HB.out.size))
          clear hb
          clear hc
          have HTW := Lib.hid (acts_ed2 x5 1 2 A4 A5 HC4.out HC5.out)
          have hb := (Below.refl x5.heap.size x5).alloc (Nat.le_refl _) (.cells #[.int .i64 4, .int .i64 1, .int .i64 0, .string { data := #[] }, .bool false, .slice A4 1 1, .int .i64 4, .int .i64 2, .int .i64 0, .string { data := #[] }, .bool false, .slice A5 1 1] 26)
          replace HLA := Lib.hid (HLA.out.below hb)
          replace HB := Lib.hid (HB.out.trans (hb.mono HB.out.size))
          clear hb
          clear HC4 HC5
          go_wp2_with fail
          refine (GI1.out _).mono ?_
          rintro e x6 ⟨A6, rfl, hc, hb⟩
          have HC6 := Lib.hid hc
          replace HLA := Lib.hid (HLA.out.below hb)
          replace HTW := Lib.hid (HTW.out.below hb)
          replace HB := Lib.hid (HB.out.trans (hb.mono HB.out.size))
          clear hb
          clear hc
          go_wp2_with fail
          refine (GI1.out _).mono ?_
          rintro e x7 ⟨A7, rfl, hc, hb⟩
          have HC7 := Lib.hid hc
          replace HLA := Lib.hid (HLA.out.below hb)
          replace HTW := Lib.hid (HTW.out.below hb)
          replace HC6 := Lib.hid (HC6.out.below hb)
          replace HB := Lib.hid (HB.out.trans (hb.mono HB.out.size))
          clear hb
          clear hc
          have HSM := Lib.hid (acts_ed2 x7 1 1 A6 A7 HC6.out HC7.out)
          have hb := (Below.refl x7.heap.size x7).alloc (Nat.le_refl _) (.cells #[.int .i64 4, .int .i64 1, .int .i64 0, .string { data := #[] }, .bool false, .slice A6 1 1, .int .i64 4, .int .i64 1, .int .i64 0, .string { data := #[] }, .bool false, .slice A7 1 1] 26)
          replace HLA := Lib.hid (HLA.out.below hb)
          replace HTW := Lib.hid (HTW.out.below hb)
          replace HB := Lib.hid (HB.out.trans (hb.mono HB.out.size))
          clear hb
          clear HC6 HC7
          have GK1 := Lib.hid (fun X (h : ActsAt X A1 (rms k)) => txnCheck_any A1 cc (rms k) (by rw [rms_length]; unfold maxLen; omega) HCAP.out (rms_good (by omega)) X h)
          rw [chk_rms (by omega), rms_length] at GK1
          have GK2 := Lib.hid (fun X g (h : ActsAt X (some ⟨g, 0, none⟩) [edA 1 A4 (blks p 1), edA 2 A5 (blks q 1)]) => txnCheck_any (some ⟨g, 0, none⟩) 2 [edA 1 A4 (blks p 1), edA 2 A5 (blks q 1)] (by simp [maxLen]) (by simp) (ed2_good (by omega) (by omega) (by rw [blks_length]; omega) (by rw [blks_length]; omega) (blks_lt p 1) (blks_lt q 1)) X h)
          rw [two_fit (blks_lt p 1) (blks_lt q 1) (blks_ne (by omega)) (blks_ne (by omega)) (by rw [blks_length]; omega) (by rw [blks_length]; omega) _ _ (by rw [blks_length, blks_length]; omega)] at GK2
          have GK3 := Lib.hid (fun X g (h : ActsAt X (some ⟨g, 0, none⟩) [edA 1 A6 (blks 1 1), edA 1 A7 (blks 1 1)]) => txnCheck_any (some ⟨g, 0, none⟩) 2 [edA 1 A6 (blks 1 1), edA 1 A7 (blks 1 1)] (by simp [maxLen]) (by simp) (ed2_good (by omega) (by omega) (by rw [blks_length]; omega) (by rw [blks_length]; omega) (blks_lt 1 1) (blks_lt 1 1)) X h)
          rw [two_same (blks_lt 1 1) (blks_lt 1 1) (blks_ne (by omega)) (blks_ne (by omega)) (by rw [blks_length]; omega) (by rw [blks_length]; omega)] at GK3
          rw [List.length_cons, List.length_singleton] at GK2 GK3
          go_wp2_with fail
          refine (GK1.out _ HLA.out).mono ?_
          rintro e x8 ⟨rfl, hb⟩
          replace HTW := Lib.hid (HTW.out.below hb)
          replace HSM := Lib.hid (HSM.out.below hb)
          replace HB := Lib.hid (HB.out.trans (hb.mono HB.out.size))
          clear hb
          go_wp2_with fail
          refine (GK2.out _ _ HTW.out).mono ?_
          rintro e x9 ⟨rfl, hb⟩
          replace HSM := Lib.hid (HSM.out.below hb)
          replace HB := Lib.hid (HB.out.trans (hb.mono HB.out.size))
          clear hb
          go_wp2_with fail
          refine (GK3.out _ _ HSM.out).mono ?_
          rintro e x10 ⟨rfl, hb⟩
          replace HB := Lib.hid (HB.out.trans (hb.mono HB.out.size))
          clear hb
          have HU := Lib.hid (acts_up x10)
          have hb := (Below.refl x10.heap.size x10).alloc (Nat.le_refl _) (.cells #[.int .i64 2, .int .i64 1, .int .i64 0, .string { data := #[97] }, .bool false, .slice none 0 0] 26)
          replace HB := Lib.hid (HB.out.trans (hb.mono HB.out.size))
          clear hb
          go_wp2_with fail
          refine (GU.out _ _ HU.out).mono ?_
          rintro e x11 ⟨rfl, hb⟩
          replace HB := Lib.hid (HB.out.trans (hb.mono HB.out.size))
          clear hb
          have HU2 := Lib.hid (acts_no x11)
          have hb := (Below.refl x11.heap.size x11).alloc (Nat.le_refl _) (.cells #[.int .i64 2, .int .i64 0, .int .i64 0, .string { data := #[] }, .bool false, .slice none 0 0] 26)
          replace HB := Lib.hid (HB.out.trans (hb.mono HB.out.size))
          clear hb
          go_wp2_with fail
          refine (GU2.out _ _ HU2.out).mono ?_
          rintro e x12 ⟨rfl, hb⟩
          replace HB := Lib.hid (HB.out.trans (hb.mono HB.out.size))
          clear hb
          go_wp2_with fail
          refine (GA.out _).mono ?_
          rintro e x13 ⟨rfl, hb⟩
          replace HB := Lib.hid (HB.out.trans (hb.mono HB.out.size))
          clear hb
          go_wp2
          go_ret
          exact ⟨rfl, HB.out⟩

end Go.Proofs.Ytmedaimndaaiiaa

/- So many acts, and so much put in by all of them together, may be, and not one more; one edit of each file: it answers true and changes nothing. No condition. -/
namespace Go.Proofs.Ytmedaimndaaiiaa
open Go.ChangeShapes Go.WideShapes Go.ChangeAt Go.RowKit

set_option maxRecDepth 100000 in
theorem txnLimits_lifted (os : Os) (started : os.Started) (H : Type) (enc : TypeId × Value → H) :
    ReturnsInHanded {} Try.checked os 3 .any (Rows.txnLimitsSpec.pre6 enc Try.prog Try.f3 Rows.txnLimitsRow.domain false) (Rows.txnLimitsSpec.post enc Try.prog Try.f3 false true false false) := by
  refine returnsInHanded_of_change (C := Try.checked) law_own started (by kernel_rfl) Try.func3
    (ChangeSpec.witness6 (enc := enc) (C := Try.checked) false ⟨#[], #[.int .i64 0, .int .i64 0, .int .i64 0], []⟩ 8 (by kernel_rfl) (by kernel_rfl) (by kernel_rfl) (by kernel_rfl)) ?_
  intro W base args ds gs before hval0 hW _ _
  have hval : ∀ (j : Nat) t v, Try.f3.params[j]? = some t → args[j]? = some v → Value.okWide Try.prog W .any base t v := hval0
  have hW' := hW
  obtain ⟨p, q, hA0, hV, rfl, _, _⟩ := hW
  have hA : DataW.TrodAll enc Try.prog W 0 (fun _ => true) true Try.f3.params.toList args.toList ds p := hA0
  rw [Try.params3] at hA hval
  obtain ⟨v0, v1, v2, d0, d1, d2, p0, p1, p2, rfl, rfl, rfl, h0, h1, h2⟩ := trodAll_three hA
  obtain ⟨rfl, rfl⟩ := trodVars_none hV
  obtain ⟨n0, rfl, rfl, rfl, hw0⟩ := open_int Try.underlying3 (hval 0 3 v0 rfl rfl) h0
  have hn0 : -9223372036854775808 ≤ n0 ∧ n0 ≤ 9223372036854775807 := by simpa [Lit.wf, IntKind.min, IntKind.max, IntKind.signed, IntKind.bits] using hw0
  obtain ⟨n1, rfl, rfl, rfl, hw1⟩ := open_int Try.underlying3 (hval 1 3 v1 rfl rfl) h1
  have hn1 : -9223372036854775808 ≤ n1 ∧ n1 ≤ 9223372036854775807 := by simpa [Lit.wf, IntKind.min, IntKind.max, IntKind.signed, IntKind.bits] using hw1
  obtain ⟨n2, rfl, rfl, rfl, hw2⟩ := open_int Try.underlying3 (hval 2 3 v2 rfl rfl) h2
  have hn2 : -9223372036854775808 ≤ n2 ∧ n2 ≤ 9223372036854775807 := by simpa [Lit.wf, IntKind.min, IntKind.max, IntKind.signed, IntKind.bits] using hw2
  clear hA0 hval0
  refine (txnLimits_any n0 n1 n2 hn0 hn1 hn2 W).mono fun e W' ⟨he, hb⟩ => ?_
  exact ⟨_, he, law_post law_laid (by kernel_rfl) (by kernel_rfl) Try.underlying4 rfl hW' rfl hb⟩

theorem txnLimits_holds : Rows.TxnLimitsSaid :=
  OpenClaim.holds_of_wide 3 Try.f3 rfl rfl rfl rfl rfl rfl rfl ⟨rfl, rfl, rfl, rfl, rfl⟩ rfl rfl rfl rfl rfl (by kernel_rfl) Try.func3 (by kernel_rfl)
    (of_decide_eq_true (by kernel_rfl)) (by unfold Func.isWrapper; first | (rw [if_pos (by decide +kernel)]; kernel_rfl) | (rw [if_neg (by decide +kernel)]; exact ⟨rfl, rfl⟩))
    (fun os started H enc _ => txnLimits_lifted os started H enc)
end Go.Proofs.Ytmedaimndaaiiaa
