/- CodecLimits holds: texts, parts, acts and nodes beyond their limits are refused as too many, whatever stands behind the count, and shorter ones than are said as none: whatever numbers and bytes the law is called with, it answers true and changes nothing. No condition. (Merged of 3 texts.) -/
import Derived.Test.YtkapfijokmajlaaHCodecBack
import Derived.Test.YtkapfijokmajlaaQBlock
import Derived.ChangeMaps5
/- The walk of the law CodecLimits: whatever numbers and bytes it is called with, it answers true; what was there stays as it was. No condition beyond lengths of memory. -/
namespace Go.Proofs.Ytkapfijokmajlaa
open Go.RowKit Go.Deep

theorem NewRdr.at_ {l : List Nat} {w w' : World} {e : Ending} (h : NewRdr l w e w') : ∃ W1 g, e = .returned (.pointer (some ⟨g, 0, none⟩)) ∧ RdrAt W1 g (l, 0) w' ∧ W1.heap.size ≤ g ∧ w.heap.size ≤ g ∧ Below w.heap.size w w' := by
  obtain ⟨W1, g, he, hr, hb⟩ := h
  exact ⟨W1, g, he, hr, hr.upto.2, Nat.le_trans hb.size hr.upto.2, hb.trans (hr.upto.1.mono hb.size)⟩
theorem NewRdr.at2 {l : List Nat} {w w' : World} {e : Ending} (h : NewRdr l w e w') : ∃ W1 g, e = .returned (.pointer (some ⟨g, 0, none⟩)) ∧ RdrAt W1 g (l, 0) w' ∧ W1.heap.size ≤ g ∧ w.heap.size ≤ g ∧ Below w.heap.size w w' ∧ w.heap.size ≤ W1.heap.size := by
  obtain ⟨W1, g, he, hr, hb⟩ := h
  exact ⟨W1, g, he, hr, hr.upto.2, Nat.le_trans hb.size hr.upto.2, hb.trans (hr.upto.1.mono hb.size), hb.size⟩
/-- What the errors are, case by case. -/
theorem limEnd (n : Nat) (l : List Nat) (E1 E2 E3 : Nat) (h1 : (100 < n → E1 = 3) ∧ (0 < n → l = [] → E1 ≠ 0)) (h2 : (20 < n → E2 = 3) ∧ (0 < n → l = [] → E2 ≠ 0)) (h3 : (100 < n → E3 = 3) ∧ (0 < n → l = [] → E3 ≠ 0)) :
    (100 < n ∧ E1 = 3 ∧ E2 = 3 ∧ E3 = 3 ∧ 0 < l.length) ∨ (100 < n ∧ E1 = 3 ∧ E2 = 3 ∧ E3 = 3 ∧ l = []) ∨ (¬ 100 < n ∧ 20 < n ∧ E2 = 3 ∧ 0 < l.length) ∨ (¬ 100 < n ∧ ¬ 20 < n ∧ n = 0) ∨ (¬ 100 < n ∧ ¬ 20 < n ∧ n ≠ 0 ∧ 0 < l.length) ∨ (¬ 100 < n ∧ 20 < n ∧ E2 = 3 ∧ l = [] ∧ E1 ≠ 0 ∧ E3 ≠ 0) ∨ (¬ 100 < n ∧ ¬ 20 < n ∧ n ≠ 0 ∧ l = [] ∧ E1 ≠ 0 ∧ E2 ≠ 0 ∧ E3 ≠ 0) := by
  have hl : l = [] ∨ 0 < l.length := by cases l with
    | nil => exact .inl rfl
    | cons x t => exact .inr (by simp)
  by_cases a : 100 < n
  · rcases hl with hl | hl
    · exact .inr (.inl ⟨a, h1.1 a, h2.1 (by omega), h3.1 a, hl⟩)
    · exact .inl ⟨a, h1.1 a, h2.1 (by omega), h3.1 a, hl⟩
  by_cases b : 20 < n
  · rcases hl with hl | hl
    · exact .inr (.inr (.inr (.inr (.inr (.inl ⟨a, b, h2.1 b, hl, h1.2 (by omega) hl, h3.2 (by omega) hl⟩)))))
    · exact .inr (.inr (.inl ⟨a, b, h2.1 b, hl⟩))
  by_cases c : n = 0
  · exact .inr (.inr (.inr (.inl ⟨a, b, c⟩)))
  rcases hl with hl | hl
  · exact .inr (.inr (.inr (.inr (.inr (.inr ⟨a, b, c, hl, h1.2 (by omega) hl, h2.2 (by omega) hl, h3.2 (by omega) hl⟩)))))
  · exact .inr (.inr (.inr (.inr (.inl ⟨a, b, c, hl⟩))))
/-- A reader stays where it stands when another one is written, an elder one too: its world is taken anew. -/
theorem RdrAt.patch {W w w' : World} {g g' n' c' e' : Nat} {s : Rd} {A' : Option Addr} (h : RdrAt W g s w) (ho : Only g' w w') (hg : g ≠ g') (hlt : g' < W.heap.size) (hr : w.rowIs g' 86 2 (rdrCells A' n' c' e')) :
    ∃ W', W'.heap.size = W.heap.size ∧ RdrAt W' g s w' := by
  obtain ⟨A, c, hrow, hA, hc, hm, hx, hge, hb⟩ := h
  have hs : g' < w'.heap.size := Nat.lt_of_lt_of_le (Nat.lt_of_lt_of_le hlt hb.size) ho.size
  have hoth : ∀ k, k ≠ g' → (W.heap.modify g' (fun _ => w'.heap[g']))[k]? = W.heap[k]? := by
    intro k hk
    rw [Array.getElem?_modify, if_neg (fun e => hk e.symm)]
  have hself : (W.heap.modify g' (fun _ => w'.heap[g']))[g']? = w'.heap[g']? := by
    rw [Array.getElem?_modify, if_pos rfl, Array.getElem?_eq_getElem hlt, Array.getElem?_eq_getElem hs]; rfl
  refine ⟨{ W with heap := W.heap.modify g' (fun _ => w'.heap[g']) }, by simp, A, c, hrow.of_block (ho.block g hrow.lt hg), ?_, hc, hm, hx, by simpa using hge, ⟨ho.os.trans hb.os, ho.tape.trans hb.tape, ho.output.trans hb.output, ?_, fun k hk => ?_⟩⟩
  · have hAw := hA
    rcases hA with h | ⟨b, off, hA, hlt2, hcells⟩
    · exact .inl h
    · by_cases hne : b = g'
      · subst hne
        refine .inl ?_
        cases hl : lft s with
        | nil => rfl
        | cons x t =>
          exfalso
          have h0 := hcells 0 x (by rw [hl]; rfl)
          have h1 : w.cell? ⟨b, off + 0, none⟩ = some (.int .u8 (x : Int)) := (hb.cell (p := ⟨b, off + 0, none⟩) hlt2).trans h0
          obtain ⟨cs, hcs, hsz, hf⟩ := hr
          have h2 : w.cell? ⟨b, off + 0, none⟩ = cs[off + 0]? := by simp [World.cell?, hcs]
          rw [h2] at h1
          by_cases h3 : off + 0 < 2
          · rw [hf _ h3] at h1
            injection h1 with h1
            unfold rdrCells at h1
            split at h1
            · cases h1
            · injection h1 with h1
              cases h1
          · rw [Array.getElem?_eq_none (by omega)] at h1
            cases h1
      · exact .inr ⟨b, off, hA, by simpa using hlt2, fun j x hj => (cell_of_block (hoth b hne) (off + j)).trans (hcells j x hj)⟩
  · simpa using Nat.le_trans hb.size ho.size
  · have hk' : k < W.heap.size := by simpa using hk
    show w'.heap[k]? = (W.heap.modify g' (fun _ => w'.heap[g']))[k]?
    by_cases e : k = g'
    · rw [e, hself]
    · rw [hoth k e, ho.block k (Nat.lt_of_lt_of_le hk' hb.size) e]
      exact hb.block k hk'

set_option maxHeartbeats 8000000 in
set_option maxRecDepth 100000 in
theorem codecLimits_in (n most count : Nat) (hn : ¬ 300 < n) (hm : ¬ 400 < most) (hc : ¬ 300 < count) {A : Option Addr} {l : List Nat} (cap : Nat) (hl : ¬ 100 < l.length) (hb : ∀ x ∈ l, x < 256) (w : World) (hA : BytesAt w A l) :
    Calls Try.prog 6 #[.int .i64 (n : Int), .int .i64 (most : Int), .int .i64 (count : Int), .slice A l.length cap] w fun e w' => e = .returned (.bool true) ∧ Below w.heap.size w w' := by
  have GA := Lib.hid (fun w => awake_any w)
  have GBK := Lib.hid (fun w => block_any n (by omega) w)
  have HA := Lib.hid hA; clear hA
  have HBY := Lib.hid hb; clear hb
  have hbsz : (bstr (blk n)).size = n := by rw [bstr_size, blk_length]
  have HTL := Lib.hid (text_lim n most (by omega))
  have HIB := Lib.hid (iText_blk n (by omega))
  have HBB := Lib.hid (blk_bytes n)
  have HBLN := Lib.hid (blk_length n)
  obtain ⟨T, HT⟩ : ∃ T, Hid (blk n = T) := ⟨_, Lib.hid rfl⟩
  rw [HT.out] at GBK hbsz HTL HIB HBB HBLN
  have HNL : Hid ((nput n).length ≤ 6) := by show _ ≤ 6; rw [nput_length]; exact nsz_le n
  have HNC : Hid ((nput count).length ≤ 6) := by show _ ≤ 6; rw [nput_length]; exact nsz_le count
  obtain ⟨P, HP⟩ : ∃ P, Hid (nput n = P) := ⟨_, rfl⟩
  have HPB : Hid (∀ x ∈ P ++ T, x < 256) := by
    intro x hx
    rcases List.mem_append.1 hx with h | h
    · rw [← HP.out] at h; exact nput_bytes n x h
    · exact HBB.out x h
  rw [HP.out] at HTL HIB HNL
  have HL1 := Lib.hid (limComps (n := count) (by omega) l)
  have HL2 := Lib.hid (limActs (n := count) (by omega) l)
  have HL3 := Lib.hid (limNodes (n := count) (by omega) l)
  have HIC := Lib.hid (iNum_yes (n := count) (by omega))
  obtain ⟨P2, HP2⟩ : ∃ P2, Hid (nput count = P2) := ⟨_, rfl⟩
  have HPB2 : Hid (∀ x ∈ P2 ++ l, x < 256) := by
    intro x hx
    rcases List.mem_append.1 hx with h | h
    · rw [← HP2.out] at h; exact nput_bytes count x h
    · exact HBY.out x h
  rw [HP2.out] at HL1 HL2 HL3 HIC HNC
  have HSL : Hid ((P2 ++ l).length ≤ 200) := by
    show _ ≤ 200
    have := HNC.out
    rw [List.length_append]
    omega
  go_enter Try.func6, Try.ntmps6
  go_wp2_with fail
  refine (GBK.out _).mono ?_
  rintro e w1 ⟨rfl, hb1⟩
  have HW1 : Hid (WrAt w w.heap.size ([], false) (fun k => k = w.heap.size) w1) := (WrAt.start w).below hb1
  clear hb1
  go_wp2_with fail
  refine (wrText_any w w.heap.size ([], false) _ T HBB.out (by simp; have := HBLN.out; omega) w1 HW1.out).mono ?_
  rintro e w2 ⟨rfl, O2, hw2, _⟩
  rw [HIB.out, show ink ([], false) (P ++ T, false) = (P ++ T, false) from by simp [ink]] at hw2
  have HW2 := Lib.hid hw2; clear hw2
  go_wp2_with fail
  refine (wrDone_any w w.heap.size (P ++ T, false) O2 (by simp only [List.length_append]; have := HNL.out; have := HBLN.out; omega) w2 HW2.out).mono ?_
  rintro e w3 ⟨hd, hb3⟩
  have HB3 : Hid (Below w.heap.size w w3) := HW2.out.upto.trans (hb3.mono HW2.out.upto.size)
  clear hb3
  rcases hd with ⟨h1, _⟩ | ⟨_, A3, k3, rfl, ho3⟩
  · cases h1
  have GNR := Lib.hid (newReader_any A3 (P ++ T) k3 (by rw [List.length_append]; have := HNL.out; have := HBLN.out; omega) HPB.out w3 (BytesAt.of_own ho3 rfl))
  clear ho3
  obtain ⟨n3, HN3⟩ : ∃ n3, Hid ((P ++ T).length = n3) := ⟨_, rfl⟩
  simp only [HN3.out] at GNR ⊢
  go_wp2_with fail
  refine GNR.out.mono ?_
  intro e w4 hnr
  obtain ⟨W4, g4, rfl, hr4, hW4, hg4, hb4⟩ := hnr.at_
  have HB4 : Hid (Below w.heap.size w w4) := HB3.out.trans (hb4.mono HB3.out.size)
  have HG4 : Hid (w.heap.size ≤ g4) := Nat.le_trans HB3.out.size hg4
  have GTX := Lib.hid (rdrText_any W4 g4 (P ++ T, 0) most (by show (P ++ T).length ≤ _; rw [List.length_append]; have := HNL.out; have := HBLN.out; omega) w4 hr4)
  rw [HTL.out] at GTX
  clear hnr hr4 hW4 hg4 hb4
  by_cases hnm : most < n
  · rw [if_pos hnm] at GTX
    have hnm2 : ¬ n ≤ most := by omega
    go_wp2_with fail
    refine GTX.out.mono ?_
    rintro e w5 ⟨rfl, hr5, ho5⟩
    have GE5 := Lib.hid (rdErr_any W4 g4 (T, 3) w5 hr5)
    have GL5 := Lib.hid (rdrLeft_any W4 g4 (T, 3) w5 hr5)
    rw [show lft (T, 3) = [] from rfl] at GL5
    have HB5 : Hid (Below w.heap.size w w5) := ho5.below HB4.out HG4.out
    have hemp : bstr ([] : List Nat) = { data := #[] } := by decide
    simp only [hemp]
    clear hr5 ho5
    go_wp2_with fail
    refine GE5.out.mono ?_
    rintro e w' ⟨rfl, rfl⟩
    go_wp2_with fail
    refine GL5.out.mono ?_
    rintro e w' ⟨rfl, rfl⟩
    have GON := Lib.hid (refOutNum_any w5 w5.heap.size noInk (count : Int) (by simp [noInk]) _ (OutAt.start w5))
    rw [HIC.out, show ink noInk (P2, false) = (P2, false) from by simp [ink, noInk]] at GON
    go_wp2_with fail
    clear hnm hnm2
    refine GON.out.mono ?_
    rintro e w6 ⟨rfl, ho6⟩
    have H6 := Lib.hid ho6; clear ho6
    have HB6 : Hid (Below w.heap.size w w6) := HB5.out.trans (H6.out.upto.mono HB5.out.size)
    obtain ⟨A6, k6, hw6, c60, _, _, _, hlt6⟩ := H6.out.read
    have HA6 := Lib.hid (BytesAt.of_own hw6 rfl)
    clear hw6
    go_wp2_with (at_builtin
                 first
                 | (refine wpList_append_bytes rfl (.tmp 98) (.tmp 100) rfl w6.heap.size (.slice (some ⟨w6.heap.size, 0, none⟩) 0 0) 0 [] rfl (World.ownsRow_lit w6 #[] 0 (Nat.le_refl _) (by simp [maxLen]) rfl) A6 P2 k6 rfl (HA6.out.alloc _) (by have := HNC.out; omega) (by simp) ?_
                    intro v7 w7 hap7
                    have hb7 := hap7.below (balloc (Below.refl _ _) _) (by simp) (fun k hk => by simp [Value.ownBlock] at hk; omega)
                    have ho7 := hap7.1
                    rw [List.nil_append, Nat.zero_add] at ho7
                    have HO7 := Lib.hid ho7; have HB7 := Lib.hid hb7.1; have HV7 := Lib.hid hb7.2; clear hap7 hb7 ho7)
                 | (refine wpList_append_bytes rfl (.tmp 101) (.tmp 102) rfl w6.heap.size v7 P2.length P2 rfl HO7.out A l cap rfl (HA.out.below (HB6.out.trans (HB7.out.mono HB6.out.size))) (by have := HNC.out; omega) HB7.out.size ?_
                    intro v8 w8 hap8
                    have hb8 := hap8.below HB7.out HB7.out.size HV7.out
                    have ho8 := hap8.1
                    rw [← List.length_append] at ho8
                    obtain ⟨A8, k8, rfl⟩ := own_slice ho8
                    have HA8 := Lib.hid (BytesAt.of_own ho8 rfl)
                    have HB8 : Hid (Below w.heap.size w w8) := HB6.out.trans (hb8.1.mono HB6.out.size)
                    clear hap8 hb8 ho8))
    obtain ⟨n8, HN8⟩ : ∃ n8, Hid (P2.length + l.length = n8) := ⟨_, rfl⟩
    have GR8 := Lib.hid (fun x hh => newReader_any A8 (P2 ++ l) k8 (by have := HSL.out; omega) HPB2.out x hh)
    simp only [List.length_append, HN8.out] at GR8 ⊢
    refine (GR8.out w8 HA8.out).mono ?_
    intro e w9 hnr
    obtain ⟨W9, g9, rfl, hr9, hW9, hg9, hb9⟩ := hnr.at_
    have HB9 : Hid (Below w.heap.size w w9) := HB8.out.trans (hb9.mono HB8.out.size)
    have HR9 := Lib.hid hr9
    have HX9 : Hid (W9.heap.size ≤ g9 ∧ w.heap.size ≤ g9 ∧ g9 < w9.heap.size) := ⟨hW9, Nat.le_trans HB8.out.size hg9, hr9.lt⟩
    have HA9 := Lib.hid (HA8.out.below hb9)
    clear hnr hr9 hW9 hg9 hb9
    go_wp2_with fail
    refine (GR8.out w9 HA9.out).mono ?_
    intro e w10 hnr
    obtain ⟨W10, g10, rfl, hr10, hW10, hg10, hb10, hs10⟩ := hnr.at2
    have HB10 : Hid (Below w.heap.size w w10) := HB9.out.trans (hb10.mono HB9.out.size)
    have HR10 := Lib.hid hr10
    have HR9b := Lib.hid (HR9.out.below hb10)
    have HX10 : Hid (W10.heap.size ≤ g10 ∧ g9 < g10 ∧ g10 < w10.heap.size) := ⟨hW10, Nat.lt_of_lt_of_le HX9.out.2.2 hg10, hr10.lt⟩
    have HL10 := Lib.hid hs10
    have HA10 := Lib.hid (HA9.out.below hb10)
    clear hnr hr10 hW10 hg10 hb10 hs10
    go_wp2_with fail
    refine (GR8.out w10 HA10.out).mono ?_
    intro e w11 hnr
    obtain ⟨W11, g11, rfl, hr11, hW11, hg11, hb11, hs11⟩ := hnr.at2
    have HB11 : Hid (Below w.heap.size w w11) := HB10.out.trans (hb11.mono HB10.out.size)
    have HR11 := Lib.hid hr11
    have HR9c := Lib.hid (HR9b.out.below hb11)
    have HR10c := Lib.hid (HR10.out.below hb11)
    have HX11 : Hid (W11.heap.size ≤ g11 ∧ g10 < g11) := ⟨hW11, Nat.lt_of_lt_of_le HX10.out.2.2 hg11⟩
    have HL11 := Lib.hid hs11
    clear hnr hr11 hW11 hg11 hb11 hs11
    have HSL2 : Hid (((P2 ++ l, 0) : Rd).1.length ≤ 1099511627776) := by show (P2 ++ l).length ≤ _; have := HSL.out; omega
    have GC := Lib.hid (rdrComps_any W9 g9 (P2 ++ l, 0) HSL2.out w11 HR9c.out)
    obtain ⟨S1, HS1⟩ : ∃ S, Hid (rdComps (P2 ++ l, 0) = S) := ⟨_, rfl⟩
    obtain ⟨S2, HS2⟩ : ∃ S, Hid (rdActs (P2 ++ l, 0) = S) := ⟨_, rfl⟩
    obtain ⟨S3, HS3⟩ : ∃ S, Hid (rdNodes (P2 ++ l, 0) = S) := ⟨_, rfl⟩
    rw [HS1.out] at GC HL1
    rw [HS2.out] at HL2
    rw [HS3.out] at HL3
    go_wp2_with fail
    refine GC.out.mono ?_
    rintro e w12 ⟨⟨_, _, rfl, _⟩, h12, o12⟩
    have H12 := Lib.hid h12
    obtain ⟨B1, d1, hrw1, _⟩ := HR9c.out
    obtain ⟨V10, hv10, hp10⟩ := HR10c.out.patch o12 (by have := HX10.out; omega) (Nat.lt_of_lt_of_le HX9.out.2.2 HL10.out) hrw1
    obtain ⟨V11, hv11, hp11⟩ := HR11.out.patch o12 (by have := HX10.out; have := HX11.out; omega) (Nat.lt_of_lt_of_le (Nat.lt_trans HX10.out.2.1 HX10.out.2.2) HL11.out) hrw1
    have HB12 : Hid (Below w.heap.size w w12) := o12.below HB11.out HX9.out.2.1
    have HP10 := Lib.hid hp10; have HP11 := Lib.hid hp11
    have HV10 : Hid (V10.heap.size ≤ g10) := by show V10.heap.size ≤ g10; rw [hv10]; exact HX10.out.1
    have HV11 : Hid (g10 < V11.heap.size) := by show g10 < V11.heap.size; rw [hv11]; exact Nat.lt_of_lt_of_le HX10.out.2.2 HL11.out
    clear h12 o12 hrw1 hp10 hp11 hv10 hv11
    go_wp2_with fail
    have GCA2 := Lib.hid (rdrActs_any V10 g10 (P2 ++ l, 0) HSL2.out w12 HP10.out)
    rw [HS2.out] at GCA2
    refine GCA2.out.mono ?_
    rintro e w13 ⟨⟨_, _, _, _, rfl, _, _⟩, h13, o13⟩
    have H13 := Lib.hid h13
    obtain ⟨B2, d2, hrw2, _⟩ := HP10.out
    obtain ⟨V12, hv12, hp12⟩ := HP11.out.patch o13 (by have := HX11.out; omega) HV11.out hrw2
    have H12b := Lib.hid (H12.out.kept o13 (by have := HX10.out; omega) (by have := HX10.out; have := HX9.out; omega))
    have HB13 : Hid (Below w.heap.size w w13) := o13.below HB12.out (by have := HX10.out; have := HX9.out; omega)
    have HP12 := Lib.hid hp12
    clear h13 o13 hrw2 hp12 hv12
    go_wp2_with fail
    have GCN2 := Lib.hid (rdrNodes_any V12 g11 (P2 ++ l, 0) HSL2.out w13 HP12.out)
    rw [HS3.out] at GCN2
    refine GCN2.out.mono ?_
    rintro e w14 ⟨⟨_, _, rfl, _⟩, h14, o14⟩
    have H14 := Lib.hid h14
    have H12c := Lib.hid (H12b.out.kept o14 (by have := HX10.out; have := HX11.out; omega) (by have := HX10.out; have := HX9.out; have := HX11.out; omega))
    have H13b := Lib.hid (H13.out.kept o14 (by have := HX11.out; omega) (by have := HV10.out; have := HX11.out; omega))
    have HB14 : Hid (Below w.heap.size w w14) := o14.below HB13.out (by have := HX10.out; have := HX9.out; have := HX11.out; omega)
    clear h14 o14
    have GE1 := Lib.hid (rdErr_any W9 g9 S1.1 w14 H12c.out)
    have GE2 := Lib.hid (rdErr_any V10 g10 S2.1 w14 H13b.out)
    have GE3 := Lib.hid (rdErr_any V12 g11 S3.1 w14 H14.out)
    obtain ⟨E1, HE1⟩ : ∃ E, Hid (S1.1.2 = E) := ⟨_, rfl⟩
    obtain ⟨E2, HE2⟩ : ∃ E, Hid (S2.1.2 = E) := ⟨_, rfl⟩
    obtain ⟨E3, HE3⟩ : ∃ E, Hid (S3.1.2 = E) := ⟨_, rfl⟩
    rw [HE1.out] at GE1 HL1
    rw [HE2.out] at GE2 HL2
    rw [HE3.out] at GE3 HL3
    have GEs := Lib.hid (limEnd count l E1 E2 E3 HL1.out HL2.out HL3.out)
    clear H12 H12b H12c H13 H13b H14 HP10 HP11 HP12
    rcases GEs.out with ⟨a1, rfl, rfl, rfl, a2⟩ | ⟨a1, rfl, rfl, rfl, rfl⟩ | ⟨a1, a2, rfl, a3⟩ | ⟨a1, a2, a3⟩ | ⟨a1, a2, a3, a4⟩ | ⟨a1, a2, rfl, rfl, a4, a5⟩ | ⟨a1, a2, a3, rfl, a5, a6, a7⟩
    · have b1 : ¬ count ≤ 100 := by omega
      have b2 : ¬ count ≤ 20 := by omega
      have b3 : ((count : Int) == 0) = false := beq_eq_false_iff_ne.2 (by omega)
      go_wp2_with fail
      refine GE1.out.mono ?_
      rintro e w' ⟨rfl, rfl⟩
      go_wp2_with fail
      refine GE2.out.mono ?_
      rintro e w' ⟨rfl, rfl⟩
      go_wp2_with fail
      refine GE3.out.mono ?_
      rintro e w' ⟨rfl, rfl⟩
      go_wp2_with fail
      refine (GA.out _).mono ?_
      rintro e w15 ⟨rfl, hb15⟩
      have HB15 : Hid (Below w.heap.size w w15) := HB14.out.trans (hb15.mono HB14.out.size)
      clear hb15
      go_wp2
      go_ret
      exact ⟨rfl, HB15.out⟩
    · have b1 : ¬ count ≤ 100 := by omega
      have b2 : ¬ count ≤ 20 := by omega
      have b3 : ((count : Int) == 0) = false := beq_eq_false_iff_ne.2 (by omega)
      go_wp2_with fail
      refine GE1.out.mono ?_
      rintro e w' ⟨rfl, rfl⟩
      go_wp2_with fail
      refine GE2.out.mono ?_
      rintro e w' ⟨rfl, rfl⟩
      go_wp2_with fail
      refine GE3.out.mono ?_
      rintro e w' ⟨rfl, rfl⟩
      go_wp2_with fail
      refine GE1.out.mono ?_
      rintro e w' ⟨rfl, rfl⟩
      go_wp2_with fail
      refine GE2.out.mono ?_
      rintro e w' ⟨rfl, rfl⟩
      go_wp2_with fail
      refine GE3.out.mono ?_
      rintro e w' ⟨rfl, rfl⟩
      go_wp2_with fail
      refine (GA.out _).mono ?_
      rintro e w15 ⟨rfl, hb15⟩
      have HB15 : Hid (Below w.heap.size w w15) := HB14.out.trans (hb15.mono HB14.out.size)
      clear hb15
      go_wp2
      go_ret
      exact ⟨rfl, HB15.out⟩
    · have b1 : count ≤ 100 := by omega
      have b2 : ¬ count ≤ 20 := by omega
      have b3 : ((count : Int) == 0) = false := beq_eq_false_iff_ne.2 (by omega)
      go_wp2_with fail
      refine GE2.out.mono ?_
      rintro e w' ⟨rfl, rfl⟩
      go_wp2_with fail
      refine (GA.out _).mono ?_
      rintro e w15 ⟨rfl, hb15⟩
      have HB15 : Hid (Below w.heap.size w w15) := HB14.out.trans (hb15.mono HB14.out.size)
      clear hb15
      go_wp2
      go_ret
      exact ⟨rfl, HB15.out⟩
    · subst a3
      go_wp2_with fail
      refine (GA.out _).mono ?_
      rintro e w15 ⟨rfl, hb15⟩
      have HB15 : Hid (Below w.heap.size w w15) := HB14.out.trans (hb15.mono HB14.out.size)
      clear hb15
      go_wp2
      go_ret
      exact ⟨rfl, HB15.out⟩
    · have b1 : count ≤ 100 := by omega
      have b2 : count ≤ 20 := by omega
      have b3 : ((count : Int) == 0) = false := beq_eq_false_iff_ne.2 (by omega)
      go_wp2_with fail
      refine (GA.out _).mono ?_
      rintro e w15 ⟨rfl, hb15⟩
      have HB15 : Hid (Below w.heap.size w w15) := HB14.out.trans (hb15.mono HB14.out.size)
      clear hb15
      go_wp2
      go_ret
      exact ⟨rfl, HB15.out⟩
    · have b1 : count ≤ 100 := by omega
      have b2 : ¬ count ≤ 20 := by omega
      have b3 : ((count : Int) == 0) = false := beq_eq_false_iff_ne.2 (by omega)
      have d1 : ((E1 : Int) != 0) = true := by simp; omega
      have d3 : ((E3 : Int) != 0) = true := by simp; omega
      go_wp2_with fail
      refine GE2.out.mono ?_
      rintro e w' ⟨rfl, rfl⟩
      go_wp2_with fail
      refine GE1.out.mono ?_
      rintro e w' ⟨rfl, rfl⟩
      go_wp2_with fail
      refine GE2.out.mono ?_
      rintro e w' ⟨rfl, rfl⟩
      go_wp2_with fail
      refine GE3.out.mono ?_
      rintro e w' ⟨rfl, rfl⟩
      go_wp2_with fail
      refine (GA.out _).mono ?_
      rintro e w15 ⟨rfl, hb15⟩
      have HB15 : Hid (Below w.heap.size w w15) := HB14.out.trans (hb15.mono HB14.out.size)
      clear hb15
      go_wp2
      go_ret
      exact ⟨rfl, HB15.out⟩
    · have b1 : count ≤ 100 := by omega
      have b2 : count ≤ 20 := by omega
      have b3 : ((count : Int) == 0) = false := beq_eq_false_iff_ne.2 (by omega)
      have d1 : ((E1 : Int) != 0) = true := by simp; omega
      have d2 : ((E2 : Int) != 0) = true := by simp; omega
      have d3 : ((E3 : Int) != 0) = true := by simp; omega
      go_wp2_with fail
      refine GE1.out.mono ?_
      rintro e w' ⟨rfl, rfl⟩
      go_wp2_with fail
      refine GE2.out.mono ?_
      rintro e w' ⟨rfl, rfl⟩
      go_wp2_with fail
      refine GE3.out.mono ?_
      rintro e w' ⟨rfl, rfl⟩
      go_wp2_with fail
      refine (GA.out _).mono ?_
      rintro e w15 ⟨rfl, hb15⟩
      have HB15 : Hid (Below w.heap.size w w15) := HB14.out.trans (hb15.mono HB14.out.size)
      clear hb15
      go_wp2
      go_ret
      exact ⟨rfl, HB15.out⟩
  · rw [if_neg hnm] at GTX
    have hnm2 : n ≤ most := by omega
    go_wp2_with fail
    refine GTX.out.mono ?_
    rintro e w5 ⟨rfl, hr5, ho5⟩
    have GE5 := Lib.hid (rdErr_any W4 g4 ([], 0) w5 hr5)
    have HB5 : Hid (Below w.heap.size w w5) := ho5.below HB4.out HG4.out
    clear hr5 ho5
    go_wp2_with fail
    refine GE5.out.mono ?_
    rintro e w' ⟨rfl, rfl⟩
    have GON := Lib.hid (refOutNum_any w5 w5.heap.size noInk (count : Int) (by simp [noInk]) _ (OutAt.start w5))
    rw [HIC.out, show ink noInk (P2, false) = (P2, false) from by simp [ink, noInk]] at GON
    go_wp2_with fail
    clear hnm hnm2
    refine GON.out.mono ?_
    rintro e w6 ⟨rfl, ho6⟩
    have H6 := Lib.hid ho6; clear ho6
    have HB6 : Hid (Below w.heap.size w w6) := HB5.out.trans (H6.out.upto.mono HB5.out.size)
    obtain ⟨A6, k6, hw6, c60, _, _, _, hlt6⟩ := H6.out.read
    have HA6 := Lib.hid (BytesAt.of_own hw6 rfl)
    clear hw6
    go_wp2_with (at_builtin
                 first
                 | (refine wpList_append_bytes rfl (.tmp 98) (.tmp 100) rfl w6.heap.size (.slice (some ⟨w6.heap.size, 0, none⟩) 0 0) 0 [] rfl (World.ownsRow_lit w6 #[] 0 (Nat.le_refl _) (by simp [maxLen]) rfl) A6 P2 k6 rfl (HA6.out.alloc _) (by have := HNC.out; omega) (by simp) ?_
                    intro v7 w7 hap7
                    have hb7 := hap7.below (balloc (Below.refl _ _) _) (by simp) (fun k hk => by simp [Value.ownBlock] at hk; omega)
                    have ho7 := hap7.1
                    rw [List.nil_append, Nat.zero_add] at ho7
                    have HO7 := Lib.hid ho7; have HB7 := Lib.hid hb7.1; have HV7 := Lib.hid hb7.2; clear hap7 hb7 ho7)
                 | (refine wpList_append_bytes rfl (.tmp 101) (.tmp 102) rfl w6.heap.size v7 P2.length P2 rfl HO7.out A l cap rfl (HA.out.below (HB6.out.trans (HB7.out.mono HB6.out.size))) (by have := HNC.out; omega) HB7.out.size ?_
                    intro v8 w8 hap8
                    have hb8 := hap8.below HB7.out HB7.out.size HV7.out
                    have ho8 := hap8.1
                    rw [← List.length_append] at ho8
                    obtain ⟨A8, k8, rfl⟩ := own_slice ho8
                    have HA8 := Lib.hid (BytesAt.of_own ho8 rfl)
                    have HB8 : Hid (Below w.heap.size w w8) := HB6.out.trans (hb8.1.mono HB6.out.size)
                    clear hap8 hb8 ho8))
    obtain ⟨n8, HN8⟩ : ∃ n8, Hid (P2.length + l.length = n8) := ⟨_, rfl⟩
    have GR8 := Lib.hid (fun x hh => newReader_any A8 (P2 ++ l) k8 (by have := HSL.out; omega) HPB2.out x hh)
    simp only [List.length_append, HN8.out] at GR8 ⊢
    refine (GR8.out w8 HA8.out).mono ?_
    intro e w9 hnr
    obtain ⟨W9, g9, rfl, hr9, hW9, hg9, hb9⟩ := hnr.at_
    have HB9 : Hid (Below w.heap.size w w9) := HB8.out.trans (hb9.mono HB8.out.size)
    have HR9 := Lib.hid hr9
    have HX9 : Hid (W9.heap.size ≤ g9 ∧ w.heap.size ≤ g9 ∧ g9 < w9.heap.size) := ⟨hW9, Nat.le_trans HB8.out.size hg9, hr9.lt⟩
    have HA9 := Lib.hid (HA8.out.below hb9)
    clear hnr hr9 hW9 hg9 hb9
    go_wp2_with fail
    refine (GR8.out w9 HA9.out).mono ?_
    intro e w10 hnr
    obtain ⟨W10, g10, rfl, hr10, hW10, hg10, hb10, hs10⟩ := hnr.at2
    have HB10 : Hid (Below w.heap.size w w10) := HB9.out.trans (hb10.mono HB9.out.size)
    have HR10 := Lib.hid hr10
    have HR9b := Lib.hid (HR9.out.below hb10)
    have HX10 : Hid (W10.heap.size ≤ g10 ∧ g9 < g10 ∧ g10 < w10.heap.size) := ⟨hW10, Nat.lt_of_lt_of_le HX9.out.2.2 hg10, hr10.lt⟩
    have HL10 := Lib.hid hs10
    have HA10 := Lib.hid (HA9.out.below hb10)
    clear hnr hr10 hW10 hg10 hb10 hs10
    go_wp2_with fail
    refine (GR8.out w10 HA10.out).mono ?_
    intro e w11 hnr
    obtain ⟨W11, g11, rfl, hr11, hW11, hg11, hb11, hs11⟩ := hnr.at2
    have HB11 : Hid (Below w.heap.size w w11) := HB10.out.trans (hb11.mono HB10.out.size)
    have HR11 := Lib.hid hr11
    have HR9c := Lib.hid (HR9b.out.below hb11)
    have HR10c := Lib.hid (HR10.out.below hb11)
    have HX11 : Hid (W11.heap.size ≤ g11 ∧ g10 < g11) := ⟨hW11, Nat.lt_of_lt_of_le HX10.out.2.2 hg11⟩
    have HL11 := Lib.hid hs11
    clear hnr hr11 hW11 hg11 hb11 hs11
    have HSL2 : Hid (((P2 ++ l, 0) : Rd).1.length ≤ 1099511627776) := by show (P2 ++ l).length ≤ _; have := HSL.out; omega
    have GC := Lib.hid (rdrComps_any W9 g9 (P2 ++ l, 0) HSL2.out w11 HR9c.out)
    obtain ⟨S1, HS1⟩ : ∃ S, Hid (rdComps (P2 ++ l, 0) = S) := ⟨_, rfl⟩
    obtain ⟨S2, HS2⟩ : ∃ S, Hid (rdActs (P2 ++ l, 0) = S) := ⟨_, rfl⟩
    obtain ⟨S3, HS3⟩ : ∃ S, Hid (rdNodes (P2 ++ l, 0) = S) := ⟨_, rfl⟩
    rw [HS1.out] at GC HL1
    rw [HS2.out] at HL2
    rw [HS3.out] at HL3
    go_wp2_with fail
    refine GC.out.mono ?_
    rintro e w12 ⟨⟨_, _, rfl, _⟩, h12, o12⟩
    have H12 := Lib.hid h12
    obtain ⟨B1, d1, hrw1, _⟩ := HR9c.out
    obtain ⟨V10, hv10, hp10⟩ := HR10c.out.patch o12 (by have := HX10.out; omega) (Nat.lt_of_lt_of_le HX9.out.2.2 HL10.out) hrw1
    obtain ⟨V11, hv11, hp11⟩ := HR11.out.patch o12 (by have := HX10.out; have := HX11.out; omega) (Nat.lt_of_lt_of_le (Nat.lt_trans HX10.out.2.1 HX10.out.2.2) HL11.out) hrw1
    have HB12 : Hid (Below w.heap.size w w12) := o12.below HB11.out HX9.out.2.1
    have HP10 := Lib.hid hp10; have HP11 := Lib.hid hp11
    have HV10 : Hid (V10.heap.size ≤ g10) := by show V10.heap.size ≤ g10; rw [hv10]; exact HX10.out.1
    have HV11 : Hid (g10 < V11.heap.size) := by show g10 < V11.heap.size; rw [hv11]; exact Nat.lt_of_lt_of_le HX10.out.2.2 HL11.out
    clear h12 o12 hrw1 hp10 hp11 hv10 hv11
    go_wp2_with fail
    have GCA2 := Lib.hid (rdrActs_any V10 g10 (P2 ++ l, 0) HSL2.out w12 HP10.out)
    rw [HS2.out] at GCA2
    refine GCA2.out.mono ?_
    rintro e w13 ⟨⟨_, _, _, _, rfl, _, _⟩, h13, o13⟩
    have H13 := Lib.hid h13
    obtain ⟨B2, d2, hrw2, _⟩ := HP10.out
    obtain ⟨V12, hv12, hp12⟩ := HP11.out.patch o13 (by have := HX11.out; omega) HV11.out hrw2
    have H12b := Lib.hid (H12.out.kept o13 (by have := HX10.out; omega) (by have := HX10.out; have := HX9.out; omega))
    have HB13 : Hid (Below w.heap.size w w13) := o13.below HB12.out (by have := HX10.out; have := HX9.out; omega)
    have HP12 := Lib.hid hp12
    clear h13 o13 hrw2 hp12 hv12
    go_wp2_with fail
    have GCN2 := Lib.hid (rdrNodes_any V12 g11 (P2 ++ l, 0) HSL2.out w13 HP12.out)
    rw [HS3.out] at GCN2
    refine GCN2.out.mono ?_
    rintro e w14 ⟨⟨_, _, rfl, _⟩, h14, o14⟩
    have H14 := Lib.hid h14
    have H12c := Lib.hid (H12b.out.kept o14 (by have := HX10.out; have := HX11.out; omega) (by have := HX10.out; have := HX9.out; have := HX11.out; omega))
    have H13b := Lib.hid (H13.out.kept o14 (by have := HX11.out; omega) (by have := HV10.out; have := HX11.out; omega))
    have HB14 : Hid (Below w.heap.size w w14) := o14.below HB13.out (by have := HX10.out; have := HX9.out; have := HX11.out; omega)
    clear h14 o14
    have GE1 := Lib.hid (rdErr_any W9 g9 S1.1 w14 H12c.out)
    have GE2 := Lib.hid (rdErr_any V10 g10 S2.1 w14 H13b.out)
    have GE3 := Lib.hid (rdErr_any V12 g11 S3.1 w14 H14.out)
    obtain ⟨E1, HE1⟩ : ∃ E, Hid (S1.1.2 = E) := ⟨_, rfl⟩
    obtain ⟨E2, HE2⟩ : ∃ E, Hid (S2.1.2 = E) := ⟨_, rfl⟩
    obtain ⟨E3, HE3⟩ : ∃ E, Hid (S3.1.2 = E) := ⟨_, rfl⟩
    rw [HE1.out] at GE1 HL1
    rw [HE2.out] at GE2 HL2
    rw [HE3.out] at GE3 HL3
    have GEs := Lib.hid (limEnd count l E1 E2 E3 HL1.out HL2.out HL3.out)
    clear H12 H12b H12c H13 H13b H14 HP10 HP11 HP12
    rcases GEs.out with ⟨a1, rfl, rfl, rfl, a2⟩ | ⟨a1, rfl, rfl, rfl, rfl⟩ | ⟨a1, a2, rfl, a3⟩ | ⟨a1, a2, a3⟩ | ⟨a1, a2, a3, a4⟩ | ⟨a1, a2, rfl, rfl, a4, a5⟩ | ⟨a1, a2, a3, rfl, a5, a6, a7⟩
    · have b1 : ¬ count ≤ 100 := by omega
      have b2 : ¬ count ≤ 20 := by omega
      have b3 : ((count : Int) == 0) = false := beq_eq_false_iff_ne.2 (by omega)
      go_wp2_with fail
      refine GE1.out.mono ?_
      rintro e w' ⟨rfl, rfl⟩
      go_wp2_with fail
      refine GE2.out.mono ?_
      rintro e w' ⟨rfl, rfl⟩
      go_wp2_with fail
      refine GE3.out.mono ?_
      rintro e w' ⟨rfl, rfl⟩
      go_wp2_with fail
      refine (GA.out _).mono ?_
      rintro e w15 ⟨rfl, hb15⟩
      have HB15 : Hid (Below w.heap.size w w15) := HB14.out.trans (hb15.mono HB14.out.size)
      clear hb15
      go_wp2
      go_ret
      exact ⟨rfl, HB15.out⟩
    · have b1 : ¬ count ≤ 100 := by omega
      have b2 : ¬ count ≤ 20 := by omega
      have b3 : ((count : Int) == 0) = false := beq_eq_false_iff_ne.2 (by omega)
      go_wp2_with fail
      refine GE1.out.mono ?_
      rintro e w' ⟨rfl, rfl⟩
      go_wp2_with fail
      refine GE2.out.mono ?_
      rintro e w' ⟨rfl, rfl⟩
      go_wp2_with fail
      refine GE3.out.mono ?_
      rintro e w' ⟨rfl, rfl⟩
      go_wp2_with fail
      refine GE1.out.mono ?_
      rintro e w' ⟨rfl, rfl⟩
      go_wp2_with fail
      refine GE2.out.mono ?_
      rintro e w' ⟨rfl, rfl⟩
      go_wp2_with fail
      refine GE3.out.mono ?_
      rintro e w' ⟨rfl, rfl⟩
      go_wp2_with fail
      refine (GA.out _).mono ?_
      rintro e w15 ⟨rfl, hb15⟩
      have HB15 : Hid (Below w.heap.size w w15) := HB14.out.trans (hb15.mono HB14.out.size)
      clear hb15
      go_wp2
      go_ret
      exact ⟨rfl, HB15.out⟩
    · have b1 : count ≤ 100 := by omega
      have b2 : ¬ count ≤ 20 := by omega
      have b3 : ((count : Int) == 0) = false := beq_eq_false_iff_ne.2 (by omega)
      go_wp2_with fail
      refine GE2.out.mono ?_
      rintro e w' ⟨rfl, rfl⟩
      go_wp2_with fail
      refine (GA.out _).mono ?_
      rintro e w15 ⟨rfl, hb15⟩
      have HB15 : Hid (Below w.heap.size w w15) := HB14.out.trans (hb15.mono HB14.out.size)
      clear hb15
      go_wp2
      go_ret
      exact ⟨rfl, HB15.out⟩
    · subst a3
      go_wp2_with fail
      refine (GA.out _).mono ?_
      rintro e w15 ⟨rfl, hb15⟩
      have HB15 : Hid (Below w.heap.size w w15) := HB14.out.trans (hb15.mono HB14.out.size)
      clear hb15
      go_wp2
      go_ret
      exact ⟨rfl, HB15.out⟩
    · have b1 : count ≤ 100 := by omega
      have b2 : count ≤ 20 := by omega
      have b3 : ((count : Int) == 0) = false := beq_eq_false_iff_ne.2 (by omega)
      go_wp2_with fail
      refine (GA.out _).mono ?_
      rintro e w15 ⟨rfl, hb15⟩
      have HB15 : Hid (Below w.heap.size w w15) := HB14.out.trans (hb15.mono HB14.out.size)
      clear hb15
      go_wp2
      go_ret
      exact ⟨rfl, HB15.out⟩
    · have b1 : count ≤ 100 := by omega
      have b2 : ¬ count ≤ 20 := by omega
      have b3 : ((count : Int) == 0) = false := beq_eq_false_iff_ne.2 (by omega)
      have d1 : ((E1 : Int) != 0) = true := by simp; omega
      have d3 : ((E3 : Int) != 0) = true := by simp; omega
      go_wp2_with fail
      refine GE2.out.mono ?_
      rintro e w' ⟨rfl, rfl⟩
      go_wp2_with fail
      refine GE1.out.mono ?_
      rintro e w' ⟨rfl, rfl⟩
      go_wp2_with fail
      refine GE2.out.mono ?_
      rintro e w' ⟨rfl, rfl⟩
      go_wp2_with fail
      refine GE3.out.mono ?_
      rintro e w' ⟨rfl, rfl⟩
      go_wp2_with fail
      refine (GA.out _).mono ?_
      rintro e w15 ⟨rfl, hb15⟩
      have HB15 : Hid (Below w.heap.size w w15) := HB14.out.trans (hb15.mono HB14.out.size)
      clear hb15
      go_wp2
      go_ret
      exact ⟨rfl, HB15.out⟩
    · have b1 : count ≤ 100 := by omega
      have b2 : count ≤ 20 := by omega
      have b3 : ((count : Int) == 0) = false := beq_eq_false_iff_ne.2 (by omega)
      have d1 : ((E1 : Int) != 0) = true := by simp; omega
      have d2 : ((E2 : Int) != 0) = true := by simp; omega
      have d3 : ((E3 : Int) != 0) = true := by simp; omega
      go_wp2_with fail
      refine GE1.out.mono ?_
      rintro e w' ⟨rfl, rfl⟩
      go_wp2_with fail
      refine GE2.out.mono ?_
      rintro e w' ⟨rfl, rfl⟩
      go_wp2_with fail
      refine GE3.out.mono ?_
      rintro e w' ⟨rfl, rfl⟩
      go_wp2_with fail
      refine (GA.out _).mono ?_
      rintro e w15 ⟨rfl, hb15⟩
      have HB15 : Hid (Below w.heap.size w w15) := HB14.out.trans (hb15.mono HB14.out.size)
      clear hb15
      go_wp2
      go_ret
      exact ⟨rfl, HB15.out⟩
end Go.Proofs.Ytkapfijokmajlaa

/- The law CodecLimits, over all arguments. No condition beyond lengths of memory. -/
namespace Go.Proofs.Ytkapfijokmajlaa
open Go.RowKit Go.Deep

set_option maxRecDepth 100000 in
theorem codecLimits_out (n most count : Int) (A : Option Addr) (k cap : Nat) (w : World)
    (h : n < 0 ∨ (¬ n < 0 ∧ 300 < n) ∨ (¬ n < 0 ∧ ¬ 300 < n ∧ most < 0) ∨ (¬ n < 0 ∧ ¬ 300 < n ∧ ¬ most < 0 ∧ 400 < most) ∨ (¬ n < 0 ∧ ¬ 300 < n ∧ ¬ most < 0 ∧ ¬ 400 < most ∧ count < 0) ∨ (¬ n < 0 ∧ ¬ 300 < n ∧ ¬ most < 0 ∧ ¬ 400 < most ∧ ¬ count < 0 ∧ 300 < count) ∨ (¬ n < 0 ∧ ¬ 300 < n ∧ ¬ most < 0 ∧ ¬ 400 < most ∧ ¬ count < 0 ∧ ¬ 300 < count ∧ 100 < k)) :
    Calls Try.prog 6 #[.int .i64 n, .int .i64 most, .int .i64 count, .slice A k cap] w fun e w' => e = .returned (.bool true) ∧ Below w.heap.size w w' := by
  have GA := Lib.hid (awake_any w)
  rcases h with h1 | ⟨h1, h2⟩ | ⟨h1, h2, h3⟩ | ⟨h1, h2, h3, h4⟩ | ⟨h1, h2, h3, h4, h5⟩ | ⟨h1, h2, h3, h4, h5, h6⟩ | ⟨h1, h2, h3, h4, h5, h6, h7⟩
  all_goals
    go_enter Try.func6, Try.ntmps6
    go_wp2_with fail
    refine GA.out.mono ?_
    rintro e w5 ⟨rfl, hb5⟩
    have HB5 := Lib.hid hb5
    clear hb5
    go_wp2
    go_ret
    exact ⟨rfl, HB5.out⟩
theorem codecLimits_any (n most count : Int) {A : Option Addr} {l : List Nat} (cap : Nat) (hb : ∀ x ∈ l, x < 256) (w : World) (hA : BytesAt w A l) :
    Calls Try.prog 6 #[.int .i64 n, .int .i64 most, .int .i64 count, .slice A l.length cap] w fun e w' => e = .returned (.bool true) ∧ Below w.heap.size w w' := by
  by_cases h1 : n < 0
  · exact codecLimits_out n most count A l.length cap w (.inl h1)
  by_cases h2 : 300 < n
  · exact codecLimits_out n most count A l.length cap w (.inr (.inl ⟨h1, h2⟩))
  by_cases h3 : most < 0
  · exact codecLimits_out n most count A l.length cap w (.inr (.inr (.inl ⟨h1, h2, h3⟩)))
  by_cases h4 : 400 < most
  · exact codecLimits_out n most count A l.length cap w (.inr (.inr (.inr (.inl ⟨h1, h2, h3, h4⟩))))
  by_cases h5 : count < 0
  · exact codecLimits_out n most count A l.length cap w (.inr (.inr (.inr (.inr (.inl ⟨h1, h2, h3, h4, h5⟩)))))
  by_cases h6 : 300 < count
  · exact codecLimits_out n most count A l.length cap w (.inr (.inr (.inr (.inr (.inr (.inl ⟨h1, h2, h3, h4, h5, h6⟩))))))
  by_cases h7 : 100 < l.length
  · exact codecLimits_out n most count A l.length cap w (.inr (.inr (.inr (.inr (.inr (.inr ⟨h1, h2, h3, h4, h5, h6, h7⟩))))))
  obtain ⟨a, rfl⟩ : ∃ a : Nat, n = (a : Int) := ⟨n.toNat, by omega⟩
  obtain ⟨b, rfl⟩ : ∃ b : Nat, most = (b : Int) := ⟨most.toNat, by omega⟩
  obtain ⟨c, rfl⟩ : ∃ c : Nat, count = (c : Int) := ⟨count.toNat, by omega⟩
  exact codecLimits_in a b c (by omega) (by omega) (by omega) cap h7 hb w hA
end Go.Proofs.Ytkapfijokmajlaa

/- CodecLimits holds: texts, parts, acts and nodes beyond their limits are refused as too many, whatever stands behind the count, and shorter ones than are said as none: whatever numbers and bytes the law is called with, it answers true and changes nothing. No condition. -/
namespace Go.Proofs.Ytkapfijokmajlaa
open Go.ChangeShapes Go.WideShapes Go.ChangeAt Go.RowKit

set_option maxRecDepth 100000 in
theorem codecLimits_lifted (os : Os) (started : os.Started) (H : Type) (enc : TypeId × Value → H) :
    ReturnsInHanded {} Try.checked os 6 .any (Rows.codecLimitsSpec.pre6 enc Try.prog Try.f6 Rows.codecLimitsRow.domain false) (Rows.codecLimitsSpec.post enc Try.prog Try.f6 false true false false) := by
  refine returnsInHanded_of_change (C := Try.checked) law_own started (by kernel_rfl) Try.func6
    (ChangeSpec.witness6 (enc := enc) (C := Try.checked) false ⟨#[], #[.int .i64 0, .int .i64 0, .int .i64 0, .slice none 0 0], []⟩ 8 (by kernel_rfl) (by kernel_rfl) (by kernel_rfl) (by kernel_rfl)) ?_
  intro W base args ds gs before hval0 hW _ _
  have hval : ∀ (j : Nat) t v, Try.f6.params[j]? = some t → args[j]? = some v → Value.okWide Try.prog W .any base t v := hval0
  have hW' := hW
  obtain ⟨p, q, hA0, hV, rfl, _, _⟩ := hW
  have hlt : ∀ x ∈ p ++ q, x.block < W.heap.size := fun x hx => hW'.lt x hx
  have hA : DataW.TrodAll enc Try.prog W 0 (fun _ => true) true Try.f6.params.toList args.toList ds p := hA0
  rw [Try.params6] at hA hval
  obtain ⟨v0, v1, v2, v3, d0, d1, d2, d3, p0, p1, p2, p3, rfl, rfl, rfl, h0, h1, h2, h3⟩ := trodAll_four hA
  obtain ⟨rfl, rfl⟩ := trodVars_none hV
  obtain ⟨n0, rfl, rfl, rfl, _⟩ := open_int Try.underlying3 (hval 0 3 v0 rfl rfl) h0
  obtain ⟨n1, rfl, rfl, rfl, _⟩ := open_int Try.underlying3 (hval 1 3 v1 rfl rfl) h1
  obtain ⟨n2, rfl, rfl, rfl, _⟩ := open_int Try.underlying3 (hval 2 3 v2 rfl rfl) h2
  obtain ⟨A, l, c, rfl, hat, hx, _⟩ := open_bytes (hval 3 25 v3 rfl rfl) h3 (fun x hx => hlt x (by simp [hx]))
  clear hA0 hval0
  refine (codecLimits_any n0 n1 n2 c hx W hat).mono fun e W' ⟨he, hb⟩ => ?_
  exact ⟨_, he, law_post law_laid (by kernel_rfl) (by kernel_rfl) Try.underlying4 rfl hW' rfl hb⟩

theorem codecLimits_holds : Rows.CodecLimitsSaid :=
  OpenClaim.holds_of_wide 6 Try.f6 rfl rfl rfl rfl rfl rfl rfl ⟨rfl, rfl, rfl, rfl, rfl⟩ rfl rfl rfl rfl rfl (by kernel_rfl) Try.func6 (by kernel_rfl)
    (of_decide_eq_true (by kernel_rfl)) (by unfold Func.isWrapper; first | (rw [if_pos (by decide +kernel)]; kernel_rfl) | (rw [if_neg (by decide +kernel)]; exact ⟨rfl, rfl⟩))
    (fun os started H enc _ => codecLimits_lifted os started H enc)
end Go.Proofs.Ytkapfijokmajlaa
