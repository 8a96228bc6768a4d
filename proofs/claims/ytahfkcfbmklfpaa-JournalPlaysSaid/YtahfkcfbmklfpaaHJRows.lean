/- Lists of bytes, each in memory of its own: what they read as, in this world and in later ones; append of one more. Condition: fewer than 2^40 of them. (Merged of 5 texts.) -/
import Derived.Test.YtahfkcfbmklfpaaHJDisk
import Derived.Test.YtahfkcfbmklfpaaJUnframe
import Derived.Lib.SliceRun
import Derived.Test.YtahfkcfbmklfpaaBy
import Derived.Test.YtahfkcfbmklfpaaConv
import Derived.Laws.Cover3
/- A half that lies in a box; the contract of half.bytes. No condition beyond those that each lemma states. -/
namespace Go.Proofs.Ytahfkcfbmklfpaa
open Go.RowKit Go.Deep

/-- The block b holds a half. -/
def BoxAt (w : World) (b g f s : Nat) : Prop := b < w.heap.size ∧ w.cell? ⟨b, 0, none⟩ = some (.pointer (some ⟨g, 0, none⟩)) ∧ w.cell? ⟨b, 1, none⟩ = some (.int .i64 (f : Int)) ∧ w.cell? ⟨b, 2, none⟩ = some (.int .i64 (s : Int))
theorem BoxAt.kept {w w' : World} {b g f s : Nat} (h : BoxAt w b g f s) (hs : w.heap.size ≤ w'.heap.size) (hk : w'.heap[b]? = w.heap[b]?) : BoxAt w' b g f s :=
  ⟨Nat.lt_of_lt_of_le h.1 hs, (cell_of_block hk _).trans h.2.1, (cell_of_block hk _).trans h.2.2.1, (cell_of_block hk _).trans h.2.2.2⟩
theorem BoxAt.below {w w' : World} {b g f s : Nat} (h : BoxAt w b g f s) (hb : Below w.heap.size w w') : BoxAt w' b g f s := h.kept hb.size (hb.block b h.1)
theorem BoxAt.off {O : Nat → Prop} {w w' : World} {b g f s : Nat} (h : BoxAt w b g f s) (ho : Off O w w') (hO : ¬O b) : BoxAt w' b g f s := h.kept ho.size (ho.block b h.1 hO)
theorem BoxAt.new (w : World) (g f s : Nat) (t : TypeId) : BoxAt (w.alloc (.cells #[.pointer (some ⟨g, 0, none⟩), .int .i64 (f : Int), .int .i64 (s : Int)] t)) w.heap.size g f s :=
  ⟨by simp, by rw [cell_of_row _ _ _ _ _ _ (heap_alloc_new w _)]; rfl, by rw [cell_of_row _ _ _ _ _ _ (heap_alloc_new w _)]; rfl, by rw [cell_of_row _ _ _ _ _ _ (heap_alloc_new w _)]; rfl⟩
/-- The bytes of s sectors from f on. -/
def seg (B : List Nat) (f s : Nat) : List Nat := (B.drop (64 * f)).take (64 * s)
theorem seg_length {B : List Nat} {f s : Nat} (h : 64 * (f + s) ≤ B.length) : (seg B f s).length = 64 * s := by
  rw [seg, List.length_take, List.length_drop]; omega
theorem seg_snoc {B : List Nat} {f i : Nat} (h : 64 * (f + i) + 64 ≤ B.length) : seg B f (i + 1) = seg B f i ++ secOf B (f + i) := by
  refine List.ext_getElem? fun j => ?_
  have hl := seg_length (B := B) (f := f) (s := i) (by omega)
  rw [seg, List.getElem?_take, List.getElem?_drop]
  by_cases h1 : j < 64 * i
  · rw [if_pos (by omega), List.getElem?_append_left (by omega), seg, List.getElem?_take, if_pos h1, List.getElem?_drop]
  · rw [List.getElem?_append_right (by omega), hl, secOf_get]
    by_cases h2 : j < 64 * (i + 1)
    · rw [if_pos h2, if_pos (by omega)]
      congr 1
      omega
    · rw [if_neg h2, if_neg (by omega)]

def lenOfS : Value → Nat
  | .slice _ n _ => n
  | _ => 0
set_option maxHeartbeats 2000000 in
set_option maxRecDepth 100000 in
theorem hbytes_any {O : Nat → Prop} {g n m k : Nat} {B : List Nat} {w : World} (h : JDisk O g n B m k w) (f s : Nat) (hf : f + s ≤ n) :
    Calls Try.prog 28 #[.agg #[.pointer (some ⟨g, 0, none⟩), .int .i64 (f : Int), .int .i64 (s : Int)]] w fun e w' => ∃ v, e = .returned v ∧ w'.ownsRow w.heap.size 5 1 v (64 * s) (u8s (seg B f s)) ∧ Below w.heap.size w w' := by
  obtain ⟨hB, hn1, hn2⟩ := h.size
  have H := Lib.hid h; clear h
  obtain ⟨i0, hi0, hz0, hz1, hz2⟩ := info_parts u8_info
  have HMK : Hid (∀ w : World, (Instr.makeSlice 31 (.int .i64 0) (.int .i64 (64 * (s : Int)))).run Try.prog w = .ok (.slice (some ⟨w.heap.size, 0, none⟩) 0 (64 * s)) (w.alloc (.cells (madeCells #[.int .u8 0] (64 * s)) 5))) := fun w => by
    have h := run_make (P := Try.prog) (w := w) 31 5 i0 (.int .u8 0) Try.underlying31 hi0 hz0 .i64 .i64 0 (64 * (s : Int)) (by omega) (by omega) (by rw [hz2]; omega) (by omega)
    rw [hz1, Nat.mul_one, show (64 * (s : Int)).toNat = 64 * s by omega] at h
    exact h
  have GS := Lib.hid (fun w => hsize_any g f s (by omega) w)
  have HBX := Lib.hid (BoxAt.new w g f s 62)
  have hbl : Below w.heap.size w (w.alloc (.cells #[.pointer (some ⟨g, 0, none⟩), .int .i64 (f : Int), .int .i64 (s : Int)] 62)) := (Below.refl _ _).alloc (Nat.le_refl _) _
  have HB0 := Lib.hid hbl; clear hbl
  go_enter Try.func28, Try.ntmps28
  go_wp2_with fail
  generalize w.alloc (.cells #[.pointer (some ⟨g, 0, none⟩), .int .i64 (f : Int), .int .i64 (s : Int)] 62) = w0 at *
  have hbx := HBX.out
  obtain ⟨hb0, hb1, hb2, hb3⟩ := hbx
  clear hb0
  go_wp2_with fail
  refine (GS.out _).mono ?_
  rintro e w1 ⟨rfl, hs1⟩
  have HB1 : Hid (Below w.heap.size w w1) := HB0.out.trans (hs1.mono HB0.out.size)
  have HX1 : Hid (BoxAt w1 w.heap.size g f s) := HBX.out.below hs1
  clear hs1 hb1 hb2 hb3
  have hmk := HMK.out w1
  go_wp2_with fail
  have HOW : Hid ((w1.alloc (.cells (madeCells #[.int .u8 0] (64 * s)) 5)).ownsRow (w.heap.size + 1) 5 1 (.slice (some ⟨w1.heap.size, 0, none⟩) 0 (64 * s)) 0 []) := World.ownsRow_made w1 _ _ HX1.out.1 (by simp only [maxLen]; omega) (by simp [size_madeCells])
  have hb2 : Below w1.heap.size w1 (w1.alloc (.cells (madeCells #[.int .u8 0] (64 * s)) 5)) := (Below.refl _ _).alloc (Nat.le_refl _) _
  have HB2 : Hid (Below w.heap.size w (w1.alloc (.cells (madeCells #[.int .u8 0] (64 * s)) 5))) := HB1.out.trans (hb2.mono HB1.out.size)
  have HX2 : Hid (BoxAt (w1.alloc (.cells (madeCells #[.int .u8 0] (64 * s)) 5)) w.heap.size g f s) := HX1.out.below hb2
  have HXL := Lib.hid HX2.out.1
  clear hmk hb2
  generalize w1.alloc (.cells (madeCells #[.int .u8 0] (64 * s)) 5) = w2 at *
  go_loopw [3] (fun v wr => ∃ i : Nat, i ≤ s ∧ Hid (wr.ownsRow (w.heap.size + 1) 5 1 v (64 * i) (u8s (seg B f i)) ∧ Below w.heap.size w wr ∧ BoxAt wr w.heap.size g f s)) (fun v _ => 64 * s - lenOfS v)
  case atStart =>
    refine ⟨0, Nat.zero_le _, ?_, HB2.out, HX2.out⟩
    rw [seg]
    exact HOW.out
  case round =>
    obtain ⟨i, hi, HR⟩ := hrel
    obtain ⟨A, c, rfl⟩ := own_slice HR.out.1
    have hbx := HR.out.2.2
    obtain ⟨hb0, hb1, hb2, hb3⟩ := hbx
    clear hb0
    go_wp2_with fail
    refine (GS.out _).mono ?_
    rintro e w3 ⟨rfl, hs3⟩
    have HB3 : Hid (Below wr.heap.size wr w3) := hs3
    have hbx := HR.out.2.2.below hs3
    clear hs3 hb1 hb2 hb3
    obtain ⟨hb0, hb1, hb2, hb3⟩ := hbx
    clear hb0
    by_cases hlt : i < s
    · have GR := Lib.hid (fun w (h : JDisk O g n B m k w) => hread_any h f s (64 * i) (by omega))
      rw [show f + 64 * i / 64 = f + i by omega] at GR
      have HSN := Lib.hid (seg_snoc (B := B) (f := f) (i := i) (by omega))
      go_wp2_with fail
      refine (GR.out _ ((H.out.below (HR.out.2.1)).below HB3.out)).mono ?_
      rintro e w4 ⟨⟨gb, hgb, rfl, hsec⟩, hb4⟩
      have HSEC := Lib.hid hsec; have HB4 : Hid (Below wr.heap.size wr w4) := HB3.out.trans (hb4.mono HB3.out.size)
      clear hsec hb4 hb1 hb2 hb3
      have HL64 := Lib.hid HSEC.out.1
      have hown := own_below HR.out.1 HB4.out
      have HOW4 := Lib.hid hown; clear hown
      have HBW4 : Hid (Below w.heap.size w w4) := HR.out.2.1.trans (HB4.out.mono HR.out.2.1.size)
      obtain ⟨X, HX⟩ : ∃ X, Hid (secOf B (f + i) = X) := ⟨_, Lib.hid rfl⟩
      rw [HX.out] at HSEC HL64 HSN
      have hx64 : Value.slice (some ⟨gb, 0, none⟩) 64 64 = Value.slice (some ⟨gb, 0, none⟩) X.length 64 := by rw [HL64.out]
      rw [hx64]
      clear hx64
      go_wp2_with
       (at_builtin
        refine wpList_append_bytes rfl (.tmp 12) (.tmp 16) rfl (w.heap.size + 1) _ _ _ rfl HOW4.out (some ⟨gb, 0, none⟩) X 64 rfl HSEC.out.at_ (by rw [HL64.out]; omega) (Nat.lt_of_lt_of_le HR.out.2.2.1 HB4.out.size) ?_
        intro v5 w5 hap
        have hkk : ∀ k, (Value.slice A (64 * i) c).ownBlock = some k → w.heap.size + 1 ≤ k := fun k hk => (HOW4.out.lt k hk).1
        have hb5 := hap.below HBW4.out HBW4.out.size (fun k hk => by have := hkk k hk; omega)
        have HBX5 : Hid (BoxAt w5 w.heap.size g f s) :=
          (HR.out.2.2.below HB4.out).kept hap.2.1.size (hap.2.1.block _ (Nat.lt_of_lt_of_le HR.out.2.2.1 HB4.out.size) fun e => by have := hkk _ e.symm; omega)
        have HO5 := Lib.hid hap.1; have HB5 := Lib.hid hb5.1; clear hap hb5 hkk)
      have HO6 : Hid (w5.ownsRow (w.heap.size + 1) 5 1 v5 (64 * (i + 1)) (u8s (seg B f (i + 1)))) := by
        have := HO5.out
        rw [HL64.out] at this
        rw [HSN.out]
        exact this
      obtain ⟨A6, c6, rfl⟩ := own_slice HO6.out
      exact ⟨⟨i + 1, by omega, HO6.out, HB5.out, HBX5.out⟩, by simp only [lenOfS]; omega⟩
    · obtain rfl : i = s := by omega
      go_wp2
      go_ret
      exact ⟨_, rfl, own_base (own_below HR.out.1 HB3.out) (by omega), HR.out.2.1.trans (HB3.out.mono HR.out.2.1.size)⟩
end Go.Proofs.Ytahfkcfbmklfpaa

/- The contract of half.put: bytes written to a place, flushed. Condition: they find room, fewer than 2^20; fewer than 2^40 acts. -/
namespace Go.Proofs.Ytahfkcfbmklfpaa
open Go.RowKit Go.Deep

theorem addrLow_block {A : Option Addr} {k c : Nat} {x : Addr} (h : addrLow A k c = some x) : ∃ y, A = some y ∧ x.block = y.block := by
  unfold addrLow at h
  split at h
  · exact ⟨x, h, rfl⟩
  · obtain ⟨y, hy, rfl⟩ := Option.map_eq_some_iff.1 h
    exact ⟨_, hy, by unfold Addr.add; split <;> rfl⟩
/-- Bytes none of which lie in the blocks O. -/
def BytesOff (O : Nat → Prop) (w : World) (A : Option Addr) (l : List Nat) : Prop := BytesAt w A l ∧ ∀ x, A = some x → ¬O x.block ∧ x.block < w.heap.size
theorem BytesOff.off {O O' : Nat → Prop} {w w' : World} {A : Option Addr} {l : List Nat} (h : BytesOff O w A l) (ho : Off O w w') (hO : ∀ x, O' x → O x ∨ w.heap.size ≤ x) : BytesOff O' w' A l := by
  obtain ⟨h1, h2⟩ := h
  refine ⟨?_, fun x hx => ⟨fun hx' => (hO _ hx').elim (h2 x hx).1 (by have := (h2 x hx).2; omega), Nat.lt_of_lt_of_le (h2 x hx).2 ho.size⟩⟩
  rcases h1 with h1 | ⟨b, off, rfl, hlt, hc⟩
  · exact .inl h1
  · exact BytesAt.kept (.inr ⟨b, off, rfl, hlt, hc⟩) ho.size fun _ => ho.block b hlt (h2 _ rfl).1
theorem BytesOff.below {O : Nat → Prop} {w w' : World} {A : Option Addr} {l : List Nat} (h : BytesOff O w A l) (hb : Below w.heap.size w w') : BytesOff O w' A l :=
  ⟨h.1.below hb, fun x hx => ⟨(h.2 x hx).1, Nat.lt_of_lt_of_le (h.2 x hx).2 hb.size⟩⟩
theorem BytesOff.low {O : Nat → Prop} {w : World} {A : Option Addr} {l : List Nat} (h : BytesOff O w A l) (c k : Nat) (hc : l.length ≤ c) : BytesOff O w (addrLow A k c) (l.drop k) :=
  ⟨h.1.low c k hc, fun x hx => by
    obtain ⟨y, hy, e⟩ := addrLow_block hx
    rw [e]
    exact h.2 y hy⟩
theorem Off.drew {O : Nat → Prop} {a w : World} (h : Off O a w) : Off O a w.drew := ⟨h.os, h.tape, h.output, h.size, h.block⟩
theorem take_more (l : List Nat) (j t : Nat) : l.take j ++ (l.drop j).take t = l.take (j + t) := by
  rw [List.take_add]
theorem size_u8 : (Try.prog.info? 5).map (·.size) = some 1 := by kernel_rfl

set_option maxHeartbeats 4000000 in
set_option maxRecDepth 100000 in
theorem hput_any {O : Nat → Prop} {g n k : Nat} {B : List Nat} {w : World} (h : JDisk O g n B 0 k w) (f s a : Nat) (hf : f + s ≤ n) (A : Option Addr) (l : List Nat) (c : Nat) (hl : a + l.length ≤ 64 * s) (hl2 : l.length ≤ 1000000) (hc : l.length ≤ c) (hc2 : c ≤ maxLen) (hk : k + l.length ≤ 1099511627776) (hat : BytesOff O w A l) :
    Calls Try.prog 36 #[.agg #[.pointer (some ⟨g, 0, none⟩), .int .i64 (f : Int), .int .i64 (s : Int)], .int .i64 (a : Int), .slice A l.length c] w fun e w' => e = .returned (.int .i64 0) ∧ ∃ O' : Nat → Prop, (∀ x, O' x → O x ∨ w.heap.size ≤ x) ∧ JDisk O' g n (patch B (64 * f + a) l) 0 (k + l.length + 1) w' ∧ Off O w w' := by
  obtain ⟨hB, hn1, hn2⟩ := h.size
  have hs1 : s ≤ 65536 := by omega
  simp only [maxLen] at hc2
  have H := Lib.hid h; have HAT := Lib.hid hat
  have HBX := Lib.hid (BoxAt.new w g f s 62)
  have hbl : Below w.heap.size w (w.alloc (.cells #[.pointer (some ⟨g, 0, none⟩), .int .i64 (f : Int), .int .i64 (s : Int)] 62)) := (Below.refl _ _).alloc (Nat.le_refl _) _
  have HB0 := Lib.hid hbl; clear hbl
  have HOL : Hid (∀ x, O x → x < w.heap.size) := h.lt.2
  clear h hat
  go_enter Try.func36, Try.ntmps36
  go_wp2_with fail
  generalize w.alloc (.cells #[.pointer (some ⟨g, 0, none⟩), .int .i64 (f : Int), .int .i64 (s : Int)] 62) = w0 at *
  go_loopw [1, 2, 6, 7, 8, 9] (fun va vb v6 v7 v8 v9 wr => ∃ (j : Nat) (Aj : Option Addr) (cj : Nat) (O' : Nat → Prop) (m : Nat), j ≤ l.length ∧ l.length - j ≤ cj ∧ cj ≤ 9223372036854775807 ∧ va = .int .i64 ((a + j : Nat) : Int) ∧ vb = .slice Aj (l.length - j) cj ∧ v6 = .int .i64 0 ∧
    Hid (m ≤ j ∧ BytesOff O w Aj (l.drop j) ∧ (∀ x, O' x → O x ∨ w.heap.size < x) ∧ JDisk O' g n (patch B (64 * f + a) (l.take j)) m (k + m) wr ∧ Off O w wr ∧ BoxAt wr w.heap.size g f s)) (fun _ vb _ _ _ _ _ => lenOfS vb)
  case atStart =>
    refine ⟨0, A, c, O, 0, Nat.zero_le _, by omega, by omega, by rw [Nat.add_zero], by rw [Nat.sub_zero], rfl, Nat.le_refl _, HAT.out, fun x hx => .inl hx, ?_, Off.of_below HB0.out, HBX.out⟩
    rw [List.take_zero, patch_nil (by omega)]
    exact H.out.below HB0.out
  case round =>
    obtain ⟨j, Aj, cj, O', m, hj, hcj, hcj2, rfl, rfl, rfl, HR⟩ := hrel
    have hbx := HR.out.2.2.2.2.2
    obtain ⟨hb0, hb1, hb2, hb3⟩ := hbx
    clear hb0
    by_cases hlt : j < l.length
    · have hlen : (l.drop j).length = l.length - j := List.length_drop
      have hjl : j + (l.length - j) = l.length := by omega
      obtain ⟨d, HD⟩ : ∃ d, Hid (l.length - j = d) := ⟨_, rfl⟩
      have hd : 0 < d ∧ d ≤ 1000000 := by have := HD.out; omega
      rw [HD.out] at hlen hcj hjl ⊢
      obtain ⟨p, HP⟩ : ∃ p, Hid (a + j = p) := ⟨_, rfl⟩
      have hpp := HP.out
      have hp1 : f + p / 64 < n := by omega
      have hp2 : p ≤ 4194304 := by omega
      have HPJ : Hid ((l.take j).length = j) := by show _ = _; rw [List.length_take]; omega
      have GR := Lib.hid (hread_any HR.out.2.2.2.1 f s p hp1)
      rw [HP.out]
      go_wp2_with fail
      refine GR.out.mono ?_
      rintro e w1 ⟨⟨gb, hgb, rfl, hsec⟩, hb1'⟩
      have HSEC := Lib.hid hsec; have HB1 : Hid (Below wr.heap.size wr w1) := hb1'
      have HGB := Lib.hid hgb
      clear hsec hb1' hgb hb1 hb2 hb3
      obtain ⟨o, HO⟩ : ∃ o, Hid (p % 64 = o) := ⟨_, rfl⟩
      have ho64 : o < 64 := by have := HO.out; omega
      obtain ⟨t, HT⟩ : ∃ t, Hid (Nat.min d (64 - o) = t) := ⟨_, rfl⟩
      have ht : 0 < t ∧ t ≤ d ∧ o + t ≤ 64 := by have : (if d ≤ 64 - o then d else 64 - o) = t := HT.out; split at this <;> omega
      have s1 := slice_rest gb 0 64 64 o (by omega) (by omega) ((p : Int) % 64) (by have := HO.out; omega)
      rw [Nat.zero_add] at s1
      have HBO : Hid (BytesOff O w1 Aj (l.drop j)) := (HR.out.2.1.off HR.out.2.2.2.2.1 (fun x hx => .inl hx)).below HB1.out
      have HPL : Hid (((l.drop j).take t).length = t) := by show _ = _; rw [List.length_take, hlen]; omega
      obtain ⟨ab, ao, rfl, _⟩ := HBO.out.1.form (by rw [hlen]; omega)
      have hcopy := fun ty => run_copy_cells (P := Try.prog) w1 31 31 ty 5 gb o (64 - o) (64 - o) ⟨ab, ao, none⟩ d cj (u8s ((l.drop j).take t)) Try.underlying31 size_u8 (by rw [u8s_length, HPL.out, HT.out])
        (BytesAt.cells (HBO.out.1.take t)) (fun i hi => by rw [u8s_length, HPL.out] at hi; obtain ⟨⟨v, hv⟩, _⟩ := HSEC.out.cell (j := o + i) (by omega); rw [hv]; rfl)
        (fun i hi => by rw [u8s_length, HPL.out] at hi; exact (HSEC.out.cell (j := o + i) (by omega)).2) (u8s_one _)
      rw [u8s_length, HPL.out] at hcopy
      have HCP := Lib.hid hcopy; clear hcopy
      have hbx1 := HR.out.2.2.2.2.2.1
      obtain ⟨X, HX⟩ : ∃ X, Hid (secOf (patch B (64 * f + a) (l.take j)) (f + p / 64) = X) := ⟨_, Lib.hid rfl⟩
      rw [HX.out] at HSEC
      go_wp2_with
       (refine wpList_copy_at rfl (.tmp 19) (.tmp 20) 31 31 rfl (.slice (some ⟨gb, o, none⟩) (64 - o) (64 - o)) (.slice (some ⟨ab, ao, none⟩) d cj) rfl rfl HCP.out ?_
        have HON : Hid (Only gb w1 (w1.setCells gb o (u8s ((l.drop j).take t)))) := Only.cells _ _ _
        have HSEC2 : Hid (SecAt (w1.setCells gb o (u8s ((l.drop j).take t))) gb (patch X o ((l.drop j).take t))) := HSEC.out.put (Y := (l.drop j).take t) (by have := HPL.out; omega)
        clear HCP
        generalize w1.setCells gb o (u8s ((l.drop j).take t)) = w2 at *
        have HX2 : Hid (BoxAt w2 w.heap.size g f s) := (HR.out.2.2.2.2.2.below HB1.out).kept HON.out.size (HON.out.block _ (Nat.lt_of_lt_of_le HR.out.2.2.2.2.2.1 HB1.out.size) (by have := HGB.out; omega))
        have hbx := HX2.out
        obtain ⟨hb0, hb1, hb2, hb3⟩ := hbx
        clear hb0 s1)
      have HD2 : Hid (JDisk O' g n (patch B (64 * f + a) (l.take j)) m (k + m) w2) := (HR.out.2.2.2.1.below HB1.out).only HON.out (fun h => by have := HR.out.2.2.2.1.lt.2 gb h; have := HGB.out; omega)
      have HXL : Hid ((patch X o ((l.drop j).take t)).length = 64) := HSEC2.out.1
      have GW := Lib.hid (hwrite_any HD2.out (by have := HR.out.1; omega) (by have := HR.out.1; omega) f s p hp1 gb 64 _ HXL.out HSEC2.out.at_ (by have := HR.out.2.2.2.1.lt; have := this.2 g this.1; have := HGB.out; omega))
      go_wp2_with fail
      refine GW.out.mono ?_
      rintro e w3 ⟨rfl, O3, hO3, hd3, hof3⟩
      have HO3 := Lib.hid hO3; have HD3 := Lib.hid hd3; have HOF3 := Lib.hid hof3
      clear hO3 hd3 hof3 hb1 hb2 hb3
      have s2 := fun w => slice_low (some ⟨ab, ao, none⟩) d cj t (by omega) w
      go_wp2_with fail
      refine wp_region_held_lit (keepBlocks []) [(0, true), (1, true), (2, true), (3, true), (4, true), (5, true), (6, true), (7, true)] (by kernel_rfl) (by kernel_rfl) (fun _ _ d _ _ h => by cases d <;> exact h) ?_
      simp only [picked, List.map_cons, List.map_nil, List.getElem?_cons_succ, List.getElem?_cons_zero, Option.getD_some]
      repeat (refine wpH_quiet (by rfl) (fun K hK => ?_); go_big_quiet_op; refine hK _ ?_; clear hK K)
      clear s2
      refine wpH_nil ?_
      have HD4 : Hid (JDisk O3 g n (patch B (64 * f + a) (l.take (j + t))) (m + 1) (k + (m + 1)) w3) := by
        have h1 := patch_sector (B := patch B (64 * f + a) (l.take j)) (X := (l.drop j).take t) (q := f + p / 64) (o := o) (by rw [patch_length (by rw [HPJ.out]; omega)]; omega) (by have := HPL.out; omega)
        rw [HX.out] at h1
        have h2 := patch_patch (B := B) (X := l.take j) (Y := (l.drop j).take t) (p := 64 * f + a) (by rw [HPJ.out, HPL.out]; omega)
        rw [HPJ.out, take_more] at h2
        have h3 := HD3.out
        rw [h1, show 64 * (f + p / 64) + o = 64 * f + a + j by have := HO.out; omega, h2] at h3
        exact h3
      have HOF4 : Hid (Off O w w3) := by
        have h1 : Off O w w1 := HR.out.2.2.2.2.1.trans (O' := fun _ => False) ⟨HB1.out.os, HB1.out.tape, HB1.out.output, HB1.out.size, fun k hk _ => HB1.out.block k hk⟩ (fun _ h => h.elim)
        have h2 : Off O w w2 := h1.trans (Off.of_only HON.out (O := fun x => x = gb) rfl) (fun x hx => .inr (by have := HGB.out; have := HR.out.2.2.2.2.1.size; omega))
        exact h2.trans HOF3.out (fun x hx => (HR.out.2.2.1 x hx).imp id (by omega))
      have HX3 : Hid (BoxAt w3 w.heap.size g f s) := HX2.out.off HOF3.out (fun h => (HR.out.2.2.1 _ h).elim (fun h => by have := HOL.out _ h; omega) (by omega))
      have HBL : Hid (BytesOff O w (addrLow (some ⟨ab, ao, none⟩) t cj) (l.drop (j + t))) := by
        have := HR.out.2.1.low cj t (by rw [hlen]; exact hcj)
        rw [List.drop_drop] at this
        exact this
      go_wp2
      go_roundw
      case measure => simp only [lenOfS]; omega
      refine ⟨j + t, addrLow (some ⟨ab, ao, none⟩) t cj, cj - t, O3, m + 1, by omega, by omega, by omega, by rw [show a + (j + t) = p + t by omega]; go_num, by rw [show l.length - (j + t) = d - t by omega], rfl, by have := HR.out.1; omega, HBL.out, fun x hx => (HO3.out x hx).elim (HR.out.2.2.1 x) (fun h => .inr ?_), HD4.out.below (Below.refl _ _).drew, HOF4.out.drew, HX3.out.below (Below.refl _ _).drew⟩
      have h1 := HON.out.size
      have h2 := HB1.out.size
      have h3 := HR.out.2.2.2.2.2.1
      omega
    · obtain rfl : j = l.length := by omega
      have GF := Lib.hid (jflush_any HR.out.2.2.2.1 (by have := HR.out.1; omega) (by have := HR.out.1; omega))
      rw [Nat.sub_self]
      go_wp2_with fail
      refine GF.out.mono ?_
      rintro e w1 ⟨rfl, hd, ho⟩
      have HD := Lib.hid hd; have HOF := Lib.hid ho
      clear hd ho
      go_wp2
      go_ret
      have hd := HD.out
      rw [List.take_length] at hd
      refine ⟨rfl, O', fun x hx => (HR.out.2.2.1 x hx).imp id (by omega), hd.le (Nat.le_refl _) (by have := HR.out.1; omega), HR.out.2.2.2.2.1.trans HOF.out fun x hx => (HR.out.2.2.1 x hx).imp id (by omega)⟩
end Go.Proofs.Ytahfkcfbmklfpaa

/- The contract of half.wipe: noughts from a place on, flushed. Condition: fewer than 2^40 acts. -/
namespace Go.Proofs.Ytahfkcfbmklfpaa
open Go.RowKit Go.Deep

def zeros (n : Nat) : List Nat := List.replicate n 0
theorem zeros_length (n : Nat) : (zeros n).length = n := List.length_replicate
theorem zeros_add (a b : Nat) : zeros a ++ zeros b = zeros (a + b) := List.replicate_append_replicate
theorem zeros_get {n j : Nat} (h : j < n) : (zeros n)[j]? = some 0 := by rw [zeros, List.getElem?_replicate, if_pos h]
theorem u8s_zeros (n : Nat) : u8s (zeros n) = List.replicate n (.int .u8 0) := by rw [u8s, zeros, List.map_replicate]; rfl
theorem zero_u8 (w : World) : (zeroValue 5).run Try.prog w = .ok (.int .u8 0) w := by
  obtain ⟨i0, hi0, hz0, _⟩ := info_parts u8_info
  simp [zeroValue, typeInfo, hi0, hz0]

set_option maxHeartbeats 4000000 in
set_option maxRecDepth 100000 in
theorem hwipe_any {O : Nat → Prop} {g n k : Nat} {B : List Nat} {w : World} (h : JDisk O g n B 0 k w) (f s a : Nat) (hf : f + s ≤ n) (ha : a ≤ 64 * s) (hk : k + s ≤ 1099511627776) :
    Calls Try.prog 48 #[.agg #[.pointer (some ⟨g, 0, none⟩), .int .i64 (f : Int), .int .i64 (s : Int)], .int .i64 (a : Int)] w fun e w' => e = .returned (.int .i64 0) ∧ ∃ O' : Nat → Prop, (∀ x, O' x → O x ∨ w.heap.size ≤ x) ∧ JDisk O' g n (patch B (64 * f + a) (zeros (64 * s - a))) 0 (k + s + 1) w' ∧ Off O w w' := by
  obtain ⟨hB, hn1, hn2⟩ := h.size
  have hs1 : s ≤ 65536 := by omega
  have H := Lib.hid h
  have HBX := Lib.hid (BoxAt.new w g f s 62)
  have hbl : Below w.heap.size w (w.alloc (.cells #[.pointer (some ⟨g, 0, none⟩), .int .i64 (f : Int), .int .i64 (s : Int)] 62)) := (Below.refl _ _).alloc (Nat.le_refl _) _
  have HB0 := Lib.hid hbl; clear hbl
  have HOL : Hid (∀ x, O x → x < w.heap.size) := h.lt.2
  have GS := Lib.hid (fun w => hsize_any g f s (by omega) w)
  clear h
  go_enter Try.func48, Try.ntmps48
  go_wp2_with fail
  generalize w.alloc (.cells #[.pointer (some ⟨g, 0, none⟩), .int .i64 (f : Int), .int .i64 (s : Int)] 62) = w0 at *
  go_loopw [1, 4, 5, 6, 7, 8] (fun va v4 v5 v6 v7 v8 wr => ∃ (j : Nat) (bw : Bool) (O' : Nat → Prop) (m : Nat), a + j ≤ 64 * s ∧ va = .int .i64 ((a + j : Nat) : Int) ∧ v4 = .int .i64 0 ∧ v5 = .bool bw ∧
    Hid (m + a / 64 ≤ (a + j) / 64 ∧ (bw = false → m = 0) ∧ (∀ x, O' x → O x ∨ w.heap.size < x) ∧ JDisk O' g n (patch B (64 * f + a) (zeros j)) m (k + m) wr ∧ Off O w wr ∧ BoxAt wr w.heap.size g f s)) (fun va _ _ _ _ _ _ => 64 * s - (intOf va).toNat)
  case atStart =>
    refine ⟨0, false, O, 0, ha, by rw [Nat.add_zero], rfl, rfl, by omega, fun _ => rfl, fun x hx => .inl hx, ?_, Off.of_below HB0.out, HBX.out⟩
    rw [show zeros 0 = [] from rfl, patch_nil (by omega)]
    exact H.out.below HB0.out
  case round =>
    obtain ⟨j, bw, O', m, hj, rfl, rfl, rfl, HR⟩ := hrel
    have hbx := HR.out.2.2.2.2.2
    obtain ⟨hb0, hb1, hb2, hb3⟩ := hbx
    clear hb0
    obtain ⟨p, HP⟩ : ∃ p, Hid (a + j = p) := ⟨_, rfl⟩
    have hpp := HP.out
    rw [HP.out] at hj ⊢
    go_wp2_with fail
    refine (GS.out _).mono ?_
    rintro e w1 ⟨rfl, hs1'⟩
    have HB1 : Hid (Below wr.heap.size wr w1) := hs1'
    clear hs1' hb1 hb2 hb3
    have hbx := HR.out.2.2.2.2.2.below HB1.out
    obtain ⟨hb0, hb1, hb2, hb3⟩ := hbx
    clear hb0
    by_cases hlt : p < 64 * s
    · have hp1 : f + p / 64 < n := by omega
      have GR := Lib.hid (hread_any (HR.out.2.2.2.1.below HB1.out) f s p hp1)
      go_wp2_with fail
      refine GR.out.mono ?_
      rintro e w2 ⟨⟨gb, hgb, rfl, hsec⟩, hb2'⟩
      have HB2 : Hid (Below wr.heap.size wr w2) := HB1.out.trans (hb2'.mono HB1.out.size)
      have HSEC := Lib.hid hsec
      have HGB : Hid (wr.heap.size ≤ gb) := Nat.le_trans HB1.out.size hgb
      clear hsec hb2' hgb hb1 hb2 hb3
      obtain ⟨o, HO⟩ : ∃ o, Hid (p % 64 = o) := ⟨_, rfl⟩
      have ho64 : o < 64 := by have := HO.out; omega
      obtain ⟨X, HX⟩ : ∃ X, Hid (secOf (patch B (64 * f + a) (zeros j)) (f + p / 64) = X) := ⟨_, Lib.hid rfl⟩
      rw [HX.out] at HSEC
      have HXL : Hid (X.length = 64) := HSEC.out.1
      have s1 := slice_rest gb 0 64 64 o (by omega) (by omega) ((p : Int) % 64) (by have := HO.out; omega)
      rw [Nat.zero_add] at s1
      have HDL : Hid ((X.drop o).length = 64 - o) := by show _ = _; rw [List.length_drop, HXL.out]
      have GB := Lib.hid (blank_any gb (0 + o) (64 - o) (X.drop o) (by rw [HDL.out]; simp only [maxLen]; omega) w2 (BytesAt.drop HSEC.out.at_ o))
      rw [HDL.out, Nat.zero_add] at GB
      have HPJ : Hid ((zeros j).length = j) := zeros_length j
      have HPO : Hid ((zeros (64 - o)).length = 64 - o) := zeros_length _
      have HNB : Hid (patch (patch B (64 * f + a) (zeros j)) (64 * (f + p / 64)) (patch X o (zeros (64 - o))) = patch B (64 * f + a) (zeros (j + (64 - o)))) := by
        have h1 := patch_sector (B := patch B (64 * f + a) (zeros j)) (X := zeros (64 - o)) (q := f + p / 64) (o := o) (by rw [patch_length (by rw [HPJ.out]; omega)]; omega) (by rw [HPO.out]; omega)
        rw [HX.out] at h1
        have h2 := patch_patch (B := B) (X := zeros j) (Y := zeros (64 - o)) (p := 64 * f + a) (by rw [HPJ.out, HPO.out]; have := HO.out; omega)
        rw [HPJ.out, zeros_add] at h2
        show _ = _
        rw [h1, show 64 * (f + p / 64) + o = 64 * f + a + j by have := HO.out; omega, h2]
      have hp3 : a + (j + (64 - o)) ≤ 64 * s := by have := HO.out; omega
      have hp4 : (a + (j + (64 - o))) / 64 = p / 64 + 1 := by have := HO.out; omega
      obtain ⟨bl, HBLK⟩ : ∃ bl, Hid (blankB (X.drop o) = bl) := ⟨_, rfl⟩
      rw [HBLK.out] at GB
      go_wp2_with fail
      refine GB.out.mono ?_
      rintro e w' ⟨rfl, rfl⟩
      clear s1
      cases bl with
      | true =>
        go_wp2
        go_roundw
        case measure => simp [intOf]; omega
        refine ⟨j + (64 - o), bw, O', m, hp3, by rw [show a + (j + (64 - o)) = p + (64 - o) by omega]; go_num, rfl, rfl, by have := HR.out.1; omega, HR.out.2.1, HR.out.2.2.1, ?_, ?_, HR.out.2.2.2.2.2.below HB2.out⟩
        · have hz := blankB_yes.1 HBLK.out
          have e1 : patch X o (zeros (64 - o)) = X := patch_same (by rw [HPO.out, HXL.out]; omega) fun i hi => by
            rw [HPO.out] at hi
            rw [zeros_get hi]
            have := hz i (by rw [HDL.out]; exact hi)
            rwa [List.getElem?_drop] at this
          have h1 := HNB.out
          rw [e1] at h1
          have e2 : patch (patch B (64 * f + a) (zeros j)) (64 * (f + p / 64)) X = patch B (64 * f + a) (zeros j) := by
            have hbl := patch_length (B := B) (X := zeros j) (p := 64 * f + a) (by rw [HPJ.out]; omega)
            refine patch_same (by rw [HXL.out]; omega) fun i hi => ?_
            rw [← HX.out, secOf_get, if_pos (by rw [HXL.out] at hi; exact hi)]
          rw [← h1, e2]
          exact HR.out.2.2.2.1.below HB2.out
        · exact HR.out.2.2.2.2.1.trans (O' := fun _ => False) ⟨HB2.out.os, HB2.out.tape, HB2.out.output, HB2.out.size, fun k hk _ => HB2.out.block k hk⟩ (fun _ h => h.elim)
      | false =>
        have hclr := fun ty => Lib.run_clear_slice (P := Try.prog) w2 31 5 ty (.int .u8 0) Try.underlying31 zero_u8 rfl rfl gb o (64 - o) (64 - o) (by omega)
          (fun i hi => by obtain ⟨⟨v, hv⟩, _⟩ := HSEC.out.cell (j := o + i) (by omega); rw [hv]; rfl) (fun i hi => (HSEC.out.cell (j := o + i) (by omega)).2)
        rw [← u8s_zeros] at hclr
        have HON : Hid (Only gb w2 (w2.setCells gb o (u8s (zeros (64 - o))))) := Only.cells _ _ _
        have HSEC2 : Hid (SecAt (w2.setCells gb o (u8s (zeros (64 - o)))) gb (patch X o (zeros (64 - o)))) := HSEC.out.put (Y := zeros (64 - o)) (by have := HPO.out; omega)
        obtain ⟨w3, HW3⟩ : ∃ w3, Hid (w2.setCells gb o (u8s (zeros (64 - o))) = w3) := ⟨_, Lib.hid rfl⟩
        rw [HW3.out] at hclr HON HSEC2
        have HX2 : Hid (BoxAt w3 w.heap.size g f s) := (HR.out.2.2.2.2.2.below HB2.out).kept HON.out.size (HON.out.block _ (Nat.lt_of_lt_of_le HR.out.2.2.2.2.2.1 HB2.out.size) (by have := HGB.out; have := HR.out.2.2.2.2.2.1; omega))
        have hbx := HX2.out
        obtain ⟨hb0, hb1, hb2, hb3⟩ := hbx
        clear hb0
        have HD2 : Hid (JDisk O' g n (patch B (64 * f + a) (zeros j)) m (k + m) w3) := (HR.out.2.2.2.1.below HB2.out).only HON.out (fun h => by have := HR.out.2.2.2.1.lt.2 gb h; have := HGB.out; omega)
        have HXL2 : Hid ((patch X o (zeros (64 - o))).length = 64) := HSEC2.out.1
        have GW := Lib.hid (hwrite_any HD2.out (by have := HR.out.1; omega) (by have := HR.out.1; omega) f s p hp1 gb 64 _ HXL2.out HSEC2.out.at_ (by have := HR.out.2.2.2.1.lt; have := this.2 g this.1; have := HGB.out; omega))
        rw [HNB.out] at GW
        go_wp2_with fail
        refine GW.out.mono ?_
        rintro e w4 ⟨rfl, O3, hO3, hd3, hof3⟩
        have HO3 := Lib.hid hO3; have HD3 := Lib.hid hd3; have HOF3 := Lib.hid hof3
        clear hO3 hd3 hof3 hb1 hb2 hb3 hclr
        have HOF4 : Hid (Off O w w4) := by
          have h1 : Off O w w2 := HR.out.2.2.2.2.1.trans (O' := fun _ => False) ⟨HB2.out.os, HB2.out.tape, HB2.out.output, HB2.out.size, fun k hk _ => HB2.out.block k hk⟩ (fun _ h => h.elim)
          have h2 : Off O w w3 := h1.trans (Off.of_only HON.out (O := fun x => x = gb) rfl) (fun x hx => .inr (by have := HGB.out; have := HR.out.2.2.2.2.1.size; omega))
          exact h2.trans HOF3.out (fun x hx => (HR.out.2.2.1 x hx).imp id (by omega))
        have HX3 : Hid (BoxAt w4 w.heap.size g f s) := HX2.out.off HOF3.out (fun h => (HR.out.2.2.1 _ h).elim (fun h => by have := HOL.out _ h; omega) (by omega))
        go_wp2
        go_roundw
        case measure => simp [intOf]; omega
        refine ⟨j + (64 - o), true, O3, m + 1, hp3, by rw [show a + (j + (64 - o)) = p + (64 - o) by omega]; go_num, rfl, rfl, by have := HR.out.1; omega, fun h => (by cases h), fun x hx => (HO3.out x hx).elim (HR.out.2.2.1 x) (fun h => .inr ?_), HD3.out, HOF4.out, HX3.out⟩
        have h1 := HON.out.size
        have h2 := HB2.out.size
        have h3 := HR.out.2.2.2.2.2.1
        omega
    · have hjs : j = 64 * s - a := by omega
      have hd := HR.out.2.2.2.1.below HB1.out
      rw [hjs] at hd
      have HD := Lib.hid hd; clear hd
      have HOF1 : Hid (Off O w w1) := HR.out.2.2.2.2.1.trans (O' := fun _ => False) ⟨HB1.out.os, HB1.out.tape, HB1.out.output, HB1.out.size, fun k hk _ => HB1.out.block k hk⟩ (fun _ h => h.elim)
      have hms : m ≤ s := by have := HR.out.1; omega
      cases bw with
      | false =>
        have hm0 := HR.out.2.1 rfl
        subst hm0
        go_wp2
        go_ret
        exact ⟨rfl, O', fun x hx => (HR.out.2.2.1 x hx).imp id (by omega), HD.out.le (Nat.le_refl _) (by omega), HOF1.out⟩
      | true =>
        have GF := Lib.hid (jflush_any HD.out (by omega) (by omega))
        go_wp2_with fail
        refine GF.out.mono ?_
        rintro e w2 ⟨rfl, hd2, ho2⟩
        have HD2 := Lib.hid hd2; have HOF2 := Lib.hid ho2
        clear hd2 ho2
        go_wp2
        go_ret
        exact ⟨rfl, O', fun x hx => (HR.out.2.2.1 x hx).imp id (by omega), HD2.out.le (Nat.le_refl _) (by omega), HOF1.out.trans HOF2.out fun x hx => (HR.out.2.2.1 x hx).imp id (by omega)⟩
end Go.Proofs.Ytahfkcfbmklfpaa

/- The contract of bytes.Clone: the same bytes, in new memory. Condition: no more than 2^46 bytes. -/
namespace Go.Proofs.Ytahfkcfbmklfpaa
open Go.RowKit Go.Deep

set_option maxRecDepth 100000 in
theorem bclone_any (A : Option Addr) (l : List Nat) (c : Nat) (hl : l.length ≤ 70368744177664) (w : World) (h : BytesAt w A l) :
    Calls Try.prog 37 #[.slice A l.length c] w fun e w' => (∃ v, e = .returned v ∧ w'.ownsRow w.heap.size 5 1 v l.length (u8s l)) ∧ Below w.heap.size w w' := by
  have H := Lib.hid h; clear h
  have hq := fun (A : Option Addr) (n : Nat) (w : World) => eql_bytes_nil A n c w
  cases A with
  | none =>
    have e : l = [] := by
      rcases H.out with h | ⟨_, _, h, _⟩
      · exact h
      · cases h
    subst e
    go_enter Try.func37, Try.ntmps37
    go_wp2
    go_ret
    exact ⟨⟨_, rfl, World.ownsRow_nil _ _ _ _⟩, Below.refl _ _⟩
  | some a =>
    go_enter Try.func37, Try.ntmps37
    go_wp2_with (at_builtin
                 refine wpList_append_bytes rfl (.tmp 5) (.tmp 6) rfl w.heap.size (.slice (some ⟨w.heap.size, 0, none⟩) 0 0) 0 [] rfl (World.ownsRow_lit w #[] 0 (Nat.le_refl _) (by simp [maxLen]) rfl) (some a) l c rfl (H.out.alloc _) (by omega) (by simp) ?_
                 intro v1 w1 hap1
                 have hb1 := hap1.below (balloc (Below.refl _ _) _) (by simp) (fun k hk => by simp [Value.ownBlock] at hk; omega)
                 have HO1 := Lib.hid hap1.1; have HBEL1 := Lib.hid hb1.1; clear hap1 hb1)
    go_ret
    have h1 := HO1.out
    rw [List.nil_append, Nat.zero_add] at h1
    exact ⟨⟨v1, rfl, h1⟩, HBEL1.out⟩
end Go.Proofs.Ytahfkcfbmklfpaa

/- Lists of bytes, each in memory of its own: what they read as, in this world and in later ones; append of one more. Condition: fewer than 2^40 of them. -/
namespace Go.Proofs.Ytahfkcfbmklfpaa
open Go.RowKit Go.Deep

abbrev Row := Option Addr × Nat × List Nat
def rowVal (x : Row) : Value := .slice x.1 x.2.2.length x.2.1
/-- The slice of address A and room c reads as the list l of bytes; all of it lies in blocks of P, and no bytes in the block of the list itself. -/
def RowsL (P : Nat → Prop) (w : World) (A : Option Addr) (c : Nat) (l : List (List Nat)) : Prop :=
  ∃ L : List Row, L.map (fun x => x.2.2) = l ∧ w.ownsRow 0 31 1 (.slice A L.length c) L.length (L.map rowVal) ∧ (∀ a, A = some a → P a.block ∧ a.block < w.heap.size) ∧
    ∀ x ∈ L, BytesAt w x.1 x.2.2 ∧ ∀ a, x.1 = some a → P a.block ∧ a.block < w.heap.size ∧ ∀ y, A = some y → a.block ≠ y.block
theorem bytes_kept {w w' : World} {A : Option Addr} {l : List Nat} (h : BytesAt w A l) (hs : w.heap.size ≤ w'.heap.size) (hk : ∀ a, A = some a → a.block < w.heap.size → w'.heap[a.block]? = w.heap[a.block]?) : BytesAt w' A l := by
  rcases h with h | ⟨b, off, rfl, hlt, hc⟩
  · exact .inl h
  · exact BytesAt.kept (.inr ⟨b, off, rfl, hlt, hc⟩) hs fun _ => hk _ rfl hlt
theorem RowsL.kept {P P' : Nat → Prop} {w w' : World} {A : Option Addr} {c : Nat} {l : List (List Nat)} (h : RowsL P w A c l) (hs : w.heap.size ≤ w'.heap.size) (hk : ∀ k, P k → k < w.heap.size → w'.heap[k]? = w.heap[k]?) (hP : ∀ k, P k → k < w.heap.size → P' k) : RowsL P' w' A c l := by
  obtain ⟨L, h1, h2, h3, h4⟩ := h
  refine ⟨L, h1, own_kept h2 fun a ha => hk _ (h3 a ha).1 (h3 a ha).2, fun a ha => ⟨hP _ (h3 a ha).1 (h3 a ha).2, Nat.lt_of_lt_of_le (h3 a ha).2 hs⟩, fun x hx => ?_⟩
  obtain ⟨h5, h6⟩ := h4 x hx
  exact ⟨bytes_kept h5 hs fun a ha _ => hk _ (h6 a ha).1 (h6 a ha).2.1, fun a ha => ⟨hP _ (h6 a ha).1 (h6 a ha).2.1, Nat.lt_of_lt_of_le (h6 a ha).2.1 hs, (h6 a ha).2.2⟩⟩
theorem RowsL.below {P : Nat → Prop} {w w' : World} {A : Option Addr} {c : Nat} {l : List (List Nat)} (h : RowsL P w A c l) (hb : Below w.heap.size w w') : RowsL P w' A c l := h.kept hb.size (fun k _ hk => hb.block k hk) fun _ h _ => h
theorem RowsL.nil (P : Nat → Prop) (w : World) : RowsL P w none 0 [] := ⟨[], rfl, World.ownsRow_nil _ _ _ _, fun a h => (by cases h), fun x h => (by cases h)⟩
/-- The cell of the i-th one. -/
theorem RowsL.cell {P : Nat → Prop} {w : World} {A : Option Addr} {c : Nat} {l : List (List Nat)} (h : RowsL P w A c l) {i : Nat} (hi : i < l.length) : ∃ b x cx, A = some ⟨b, 0, none⟩ ∧ w.cell? ⟨b, i, none⟩ = some (.slice x (l[i]).length cx) ∧ BytesAt w x l[i] ∧ ∀ a, x = some a → P a.block ∧ a.block < w.heap.size := by
  obtain ⟨L, rfl, h2, h3, h4⟩ := h
  rw [List.length_map] at hi
  obtain ⟨g, cap, hv, _, _⟩ := h2.form (by omega)
  injection hv with hv1 _ hv3
  subst hv1
  subst hv3
  have hc := h2.cellAt i (by simpa using hi)
  have hx := h4 L[i] (List.getElem_mem hi)
  refine ⟨g, L[i].1, L[i].2.1, rfl, ?_, by simpa using hx.1, fun a ha => ⟨(hx.2 a ha).1, (hx.2 a ha).2.1⟩⟩
  rw [hc, List.getElem?_map, List.getElem?_eq_getElem hi]
  simp [rowVal]
theorem RowsL.len {P : Nat → Prop} {w : World} {A : Option Addr} {c : Nat} {l : List (List Nat)} (h : RowsL P w A c l) : l.length ≤ maxLen := by
  obtain ⟨L, rfl, h2, _⟩ := h
  rw [List.length_map]
  exact own_len h2
theorem slice_info : (Try.prog.info? 31).map (fun i => (i.zero, i.size, i.bytes)) = some (some (.slice none 0 0), 1, 24) := by kernel_rfl
/-- One more. -/
theorem run_rows_push {P : Nat → Prop} {w : World} {A : Option Addr} {c : Nat} {l : List (List Nat)} (h : RowsL P w A c l) (hl : l.length ≤ 1099511627776) (nA : Option Addr) (b : List Nat) (nc : Nat) (hat : BytesAt w nA b)
    (hn : ∀ a, nA = some a → P a.block ∧ a.block < w.heap.size ∧ ∀ y, A = some y → a.block ≠ y.block) (hP : ∀ k, w.heap.size ≤ k → P k) (ty : TypeId) (n : Nat) (hnl : n = l.length) :
    ∃ A' c' w', (Builtin.append_ #[32, 32] ty #[.slice A n c, .slice (some ⟨w.heap.size, 0, none⟩) 1 1]).run Try.prog (w.alloc (.cells #[.slice nA b.length nc] 31)) = .ok (.slice A' (l ++ [b]).length c') w' ∧
      RowsL P w' A' c' (l ++ [b]) ∧ (Off (fun k => ∃ y, A = some y ∧ k = y.block) w w' ∧ w.heap.size < w'.heap.size) ∧ (∀ a, A' = some a → (∃ y, A = some y ∧ a.block = y.block) ∨ w.heap.size ≤ a.block) := by
  subst hnl
  obtain ⟨i0, hi0, hz0, hz1, hz2⟩ := info_parts slice_info
  obtain ⟨L, rfl, h2, h3, h4⟩ := h
  rw [List.length_map] at hl ⊢
  have hb : Below w.heap.size w (w.alloc (.cells #[.slice nA b.length nc] 31)) := (Below.refl _ _).alloc (Nat.le_refl _) _
  obtain ⟨v', w', hrun, ho, hg, _, hw⟩ := run_append_own_at (P := Try.prog) (w.alloc (.cells #[.slice nA b.length nc] 31)) 0 32 ty 31 i0 (.slice none 0 0) 1 24 Try.underlying32 hi0 hz0 hz1 hz2 rfl (by omega) (.slice A L.length c) L.length (L.map rowVal) (h2.alloc _) ⟨w.heap.size, 0, none⟩ 1 1 [.slice nA b.length nc]
    rfl (fun j u hu => by rw [Go.WideShapes.add_plain, Nat.zero_add, cell_of_row _ _ _ _ _ _ (heap_alloc_new w _)]; simpa using hu) (fun u hu => by rw [List.mem_singleton.1 hu]; rfl) (by simp only [maxLen]; omega) (by omega) (Nat.zero_le _)
  obtain ⟨A', c', rfl⟩ := own_slice ho
  have hoff : Off (fun k => ∃ y, A = some y ∧ k = y.block) w w' := by
    refine ⟨hg.os, hg.tape, hg.output, Nat.le_trans hb.size hg.size, fun k hk hne => ?_⟩
    rw [hg.block k (Nat.lt_of_lt_of_le hk hb.size) ?_]
    · exact hb.block k hk
    · intro e
      cases A with
      | none => simp [Value.ownBlock] at e
      | some y => simp [Value.ownBlock] at e; exact hne ⟨y, rfl, e⟩
  have hA' : ∀ a, A' = some a → (∃ y, A = some y ∧ a.block = y.block) ∨ w.heap.size ≤ a.block := by
    intro a ha
    subst ha
    rcases hw with hw | hw
    · cases A with
      | none => simp [Value.ownBlock] at hw
      | some y => simp [Value.ownBlock] at hw; exact .inl ⟨y, rfl, hw⟩
    · simp [Value.ownBlock] at hw
      exact .inr (by omega)
  have hnew : L.map rowVal ++ [.slice nA b.length nc] = (L ++ [((nA, nc, b) : Row)]).map rowVal := by simp [rowVal]
  rw [hnew] at ho
  refine ⟨A', c', w', by rw [hrun]; simp, ⟨L ++ [(nA, nc, b)], by simp, ?_, fun a ha => ?_, fun x hx => ?_⟩, ⟨hoff, Nat.lt_of_lt_of_le (by simp) hg.size⟩, hA'⟩
  · rw [List.length_append]
    exact ho
  · subst ha
    obtain ⟨_, hlt⟩ := ho.lt a.block rfl
    exact ⟨(hA' a rfl).elim (fun ⟨y, hy, e⟩ => by rw [e]; exact (h3 y hy).1) (hP _), hlt⟩
  · have key : BytesAt w x.1 x.2.2 ∧ ∀ a, x.1 = some a → P a.block ∧ a.block < w.heap.size ∧ ∀ y, A = some y → a.block ≠ y.block := by
      rcases List.mem_append.1 hx with hx | hx
      · exact h4 x hx
      · rw [List.mem_singleton.1 hx]
        exact ⟨hat, hn⟩
    refine ⟨bytes_kept key.1 hoff.size fun a ha hlt => hoff.block _ hlt fun ⟨y, hy, e⟩ => (key.2 a ha).2.2 y hy e, fun a ha => ⟨(key.2 a ha).1, Nat.lt_of_lt_of_le (key.2 a ha).2.1 hoff.size, fun y hy e => ?_⟩⟩
    rcases hA' y hy with ⟨z, hz, e2⟩ | h
    · exact (key.2 a ha).2.2 z hz (e.trans e2)
    · have := (key.2 a ha).2.1
      omega
theorem wp_rows_push {P : Nat → Prop} {w : World} {o : Oper} {a : Act} {K : Act → World → Prop} {Q : Exit → Act → World → Prop} (s x : Operand)
    (ho : o.op = .call { callee := .builtin .append, args := #[s, x], argTypes := #[32, 32] })
    (A : Option Addr) (c : Nat) (l : List (List Nat)) (h : RowsL P w A c l) (hl : l.length ≤ 1099511627776) (nA : Option Addr) (b : List Nat) (nc : Nat) (hat : BytesAt w nA b)
    (hn : ∀ a, nA = some a → P a.block ∧ a.block < w.heap.size ∧ ∀ y, A = some y → a.block ≠ y.block) (hP : ∀ k, w.heap.size ≤ k → P k) (n : Nat) (hnl : n = l.length)
    (hs : a.eval s = .slice A n c) (hx : a.eval x = .slice (some ⟨w.heap.size, 0, none⟩) 1 1)
    (hK : ∀ A' c' w', RowsL P w' A' c' (l ++ [b]) → (Off (fun k => ∃ y, A = some y ∧ k = y.block) w w' ∧ w.heap.size < w'.heap.size) → (∀ a, A' = some a → (∃ y, A = some y ∧ a.block = y.block) ∨ w.heap.size ≤ a.block) → K (a.put o.dst (.slice A' (l ++ [b]).length c')) w') :
    o.wp Try.prog a (w.alloc (.cells #[.slice nA b.length nc] 31)) K Q := by
  obtain ⟨A', c', w', hrun, h1, h2, h3⟩ := run_rows_push h hl nA b nc hat hn hP o.type n hnl
  unfold Oper.wp execOp
  simp only [ho, resolve, invoke, builtin, Sem.run_bind, Sem.run_pure, Result.andThen_ok, List.map_toArray, List.map_cons, List.map_nil, hs, hx, hrun]
  exact hK A' c' w' h1 h2 h3
theorem wpList_rows_push {P : Nat → Prop} {w : World} {ops : Array Oper} {rest : List Oper} {o : Oper} {a : Act} {Q : Exit → Act → World → Prop} (hgd : o.guard = none) (s x : Operand)
    (ho : o.op = .call { callee := .builtin .append, args := #[s, x], argTypes := #[32, 32] })
    (A : Option Addr) (c : Nat) (l : List (List Nat)) (h : RowsL P w A c l) (hl : l.length ≤ 1099511627776) (nA : Option Addr) (b : List Nat) (nc : Nat) (hat : BytesAt w nA b)
    (hn : ∀ a, nA = some a → P a.block ∧ a.block < w.heap.size ∧ ∀ y, A = some y → a.block ≠ y.block) (hP : ∀ k, w.heap.size ≤ k → P k) (n : Nat) (hnl : n = l.length)
    (hs : a.eval s = .slice A n c) (hx : a.eval x = .slice (some ⟨w.heap.size, 0, none⟩) 1 1)
    (hK : ∀ A' c' w', RowsL P w' A' c' (l ++ [b]) → (Off (fun k => ∃ y, A = some y ∧ k = y.block) w w' ∧ w.heap.size < w'.heap.size) → (∀ a, A' = some a → (∃ y, A = some y ∧ a.block = y.block) ∨ w.heap.size ≤ a.block) → wpList Try.prog ops Q rest (a.put o.dst (.slice A' (l ++ [b]).length c')) w') :
    wpList Try.prog ops Q (o :: rest) a (w.alloc (.cells #[.slice nA b.length nc] 31)) :=
  wpList_plain hgd fun _ hK' => wp_rows_push s x ho A c l h hl nA b nc hat hn hP n hnl hs hx fun A' c' w' h1 h2 h3 => hK' _ _ (hK A' c' w' h1 h2 h3)
end Go.Proofs.Ytahfkcfbmklfpaa
