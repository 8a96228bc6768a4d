/- Seen from behind acts on others, what was done is as it was; what was done to whom is found by its ID alone: it answers true and changes nothing. No condition. (Merged of 2 texts.) -/
import Derived.Test.YtnadhpajelkngaaKLnd
import Derived.Test.YtnadhpajelkngaaKMd
import Derived.Test.YtnadhpajelkngaaKSrt
import Derived.BigQuiet
import Derived.Test.YtnadhpajelkngaaKArg
import Derived.ChangeMaps5
/- EffectKeeps, walked: seen from behind acts on others, what was done is as it was; what was done to whom is found by its ID alone. Condition: what memory may hold. -/
namespace Go.Proofs.Ytnadhpajelkngaa
open Go.RowKit Go.Deep

/-- Those that touch nobody's text. -/
def keepA (l : List OneV) (a : ActV) : Bool := decide (getO l a.id < 0) || decide (a.kind ≠ 4)
theorem keepA_idle {l : List OneV} {m : List ActV} : overK (l.map (·.k)) (m.filter (keepA l)) = l.map (·.k) := by
  refine overK_idle fun a ha x hx h => ?_
  have hk := (List.mem_filter.1 ha).2
  obtain ⟨y, hy, rfl⟩ := List.mem_map.1 hx
  unfold keepA at hk
  rw [Bool.or_eq_true] at hk
  rcases hk with hk | hk
  · exact getO_neg.1 (of_decide_eq_true hk) y hy h.2.symm
  · exact (of_decide_eq_true hk) h.1
theorem elem_onee : Try.prog.elem 27 = 37 := by kernel_rfl
theorem size_onee (w : World) : (sizeOf 37).run Try.prog w = .ok 8 w := Try.sizeOf37 w
/-- One of them, cut out. -/
theorem ones_one {w : World} {b off : Nat} {l : List OneV} {c k : Nat} (h : OnesAt w (some ⟨b, off, none⟩) l) (hc : l.length ≤ c) (hk : k < l.length) :
    ∃ A', (∀ w, (Instr.slice 27 (.slice (some ⟨b, off, none⟩) l.length c) (some (.int .i64 (k : Int))) (some (.int .i64 ((k : Int) + 1))) none).run Try.prog w = .ok (.slice A' 1 (c - k)) w) ∧ OnesAt w A' [l[k]] := by
  obtain ⟨h0, h1, h2, h3, h4, h5, h6, h7⟩ := h.at_ hk
  obtain ⟨b', off', e, hb⟩ := h.form (by omega)
  injection e with e
  injection e with e1 e2
  subst e1 e2
  refine ⟨some ⟨b, off + k * 8, none⟩, fun w => ?_, .inr ⟨b, off + k * 8, rfl, hb, fun j v hj => ?_⟩, fun y hy => by rw [List.mem_singleton.1 hy]; exact h.2 _ (List.getElem_mem hk)⟩
  · rw [run_slice_lh (P := Try.prog) (w := w) 27 (some ⟨b, off, none⟩) l.length c (by rw [elem_onee]; exact Try.underlying27) .i64 .i64 (k : Int) ((k : Int) + 1) (by omega) (by omega) (by omega), elem_onee, size_onee]
    simp [Result.andThen, sliced, Go.WideShapes.add_plain]
    omega
  · match j with
    | 0 => simp [oneCells] at hj; rw [← hj]; exact h0
    | 1 => simp [oneCells] at hj; rw [← hj]; exact h1
    | 2 => simp [oneCells] at hj; rw [← hj]; exact h2
    | 3 => simp [oneCells] at hj; rw [← hj]; exact h3
    | 4 => simp [oneCells] at hj; rw [← hj]; exact h4
    | 5 => simp [oneCells] at hj; rw [← hj]; exact h5
    | 6 => simp [oneCells] at hj; rw [← hj]; exact h6
    | 7 => simp [oneCells] at hj; rw [← hj]; exact h7
    | j + 8 => simp [oneCells] at hj
set_option maxHeartbeats 8000000 in
set_option maxRecDepth 100000 in
theorem effectKeeps_any (A : Option Addr) (l : List OneV) (c : Nat) (B : Option Addr) (m : List ActV) (d : Nat) (hl : l.length ≤ maxLen) (gl : ∀ y ∈ l, y.Good) (hm : m.length ≤ maxLen) (gm : ∀ y ∈ m, y.Good) (w : World) (hA : OnesAt w A l ∧ l.length ≤ c) (hB : ActsAt w B m ∧ m.length ≤ d) :
    Calls Try.prog 5 #[.slice A l.length c, .slice B m.length d] w fun e w' => e = .returned (.bool true) ∧ Below w.heap.size w w' := by
  have GA := Lib.hid (fun w => eawake_any w)
  have GS := Lib.hid (oneSmall_at c hl gl w hA.1)
  have GW := Lib.hid (fun (X : World) (h : Below w.heap.size w X) => alikeActs_at 2000 d hm gm X (hB.1.below h))
  have HAT := Lib.hid (fun (X : World) (h : Below w.heap.size w X) => hA.1.below h)
  have HBT := Lib.hid (fun (X : World) (h : Below w.heap.size w X) => hB.1.below h)
  have HAC := Lib.hid hA.2
  have HBC := Lib.hid hB.2
  have HL0 := Lib.hid hl
  clear hA hB
  cases hsm : smallO l with
  | false =>
    rw [hsm] at GS
    clear gl gm
    go_enter Try.func5, Try.ntmps5
    go_wp2_with fail
    refine GS.out.mono ?_
    rintro e w1 ⟨rfl, hb1⟩
    have HB1 := Lib.hid hb1
    clear hb1
    go_wp2_with fail
    refine (GA.out _).mono ?_
    rintro e w2 ⟨rfl, hb2⟩
    have HB2 := Lib.hid (HB1.out.trans (hb2.mono HB1.out.size))
    go_wp2
    go_ret
    exact ⟨rfl, HB2.out⟩
  | true =>
    rw [hsm] at GS
    obtain ⟨T, HT⟩ : ∃ T, Hid (actsWeight 2000 m = T) := ⟨_, Lib.hid rfl⟩
    rw [HT.out] at GW
    by_cases hw : 2000 < T
    · clear gl gm
      have hwi : (2000 : Int) < (T : Int) := by omega
      go_enter Try.func5, Try.ntmps5
      go_wp2_with fail
      refine GS.out.mono ?_
      rintro e w1 ⟨rfl, hb1⟩
      have HB1 := Lib.hid hb1
      clear hb1
      go_wp2_with fail
      refine (GW.out _ HB1.out).mono ?_
      rintro e w2 ⟨rfl, hb2⟩
      have HB2 := Lib.hid (HB1.out.trans (hb2.mono HB1.out.size))
      clear hb2
      go_wp2_with fail
      refine (GA.out _).mono ?_
      rintro e w3 ⟨rfl, hb3⟩
      have HB3 := Lib.hid (HB2.out.trans (hb3.mono HB2.out.size))
      go_wp2
      go_ret
      exact ⟨rfl, HB3.out⟩
    obtain ⟨hl3, hkey⟩ := ones_held gl hsm
    obtain ⟨hm4, hact⟩ := acts_held (lim := 2000) (by omega) gm (by rw [HT.out]; omega)
    have hwi : ¬ (2000 : Int) < (T : Int) := by omega
    have HKEY := Lib.hid hkey
    have HACT := Lib.hid hact
    have HGL := Lib.hid gl
    clear hkey hact hsm gl gm hw
    have GG := Lib.hid (fun (id : Int) (X : World) (h : Below w.heap.size w X) => refGet_any A c l id HL0.out X (HAT.out X h))
    have GM := Lib.hid (fun (X : World) (h : Below w.heap.size w X) => made_any A c l (by omega) X (HAT.out X h))
    go_enter Try.func5, Try.ntmps5
    go_wp2_with fail
    refine GS.out.mono ?_
    rintro e w1 ⟨rfl, hb1⟩
    have HB1 := Lib.hid hb1
    clear hb1 GS
    go_wp2_with fail
    refine (GW.out _ HB1.out).mono ?_
    rintro e w2 ⟨rfl, hb2⟩
    have HB2 := Lib.hid (HB1.out.trans (hb2.mono HB1.out.size))
    clear hb2 GW HB1
    go_wp2
    go_loopw [5, 6] (fun s5 s6 wr => ∃ (k : Nat) (A1 : Option Addr) (c1 : Nat), k ≤ m.length ∧ s5 = .slice A1 ((m.take k).filter (keepA l)).length c1 ∧ s6 = .int .i64 (k : Int) ∧ Hid (OwnA wr w.heap.size A1 c1 ((m.take k).filter (keepA l))) ∧ Hid (Below w.heap.size w wr)) (fun _ i _ => m.length - (intOf i).toNat)
    case atStart => exact ⟨0, none, 0, Nat.zero_le _, rfl, rfl, Lib.hid (OwnA.nil _ _), HB2⟩
    case round =>
      clear HB2
      obtain ⟨k, A1, c1, hk, rfl, rfl, HO, HB⟩ := hrel
      obtain ⟨wo, hwo⟩ : ∃ x, x = wr := ⟨wr, rfl⟩
      subst hwo
      by_cases hlt : k < m.length
      · obtain ⟨bb, off, rfl, _⟩ := (HBT.out _ HB.out).form (by omega)
        have hltI : (k : Int) < (m.length : Int) := by omega
        have HZ := Lib.hid (fun (X : World) (h : Below w.heap.size w X) => (HBT.out X h).at_ hlt)
        have HFS : Hid ((m.take (k + 1)).filter (keepA l) = (m.take k).filter (keepA l) ++ if keepA l m[k] = true then [m[k]] else []) := Lib.hid (by
          rw [List.take_succ_eq_append_getElem hlt, List.filter_append]
          congr 1
          cases h : keepA l m[k] <;> simp [h])
        have HFL : Hid (((m.take k).filter (keepA l)).length ≤ 4000) := Lib.hid (by
          have h1 := List.length_filter_le (keepA l) (m.take k)
          rw [List.length_take] at h1
          omega)
        generalize (m.take k).filter (keepA l) = P at HO HFS HFL ⊢
        generalize m[k] = a at HZ HFS
        obtain ⟨ak, ai, ap, an, ad, aA, aC, ao⟩ := a
        simp only at HZ
        obtain ⟨gv, HGV⟩ : ∃ g, Hid (getO l ai = g) := ⟨_, Lib.hid rfl⟩
        have HKE : Hid (keepA l ⟨ak, ai, ap, an, ad, aA, aC, ao⟩ = (decide (gv < 0) || decide (ak ≠ 4))) := Lib.hid (by unfold keepA; simp only; rw [HGV.out])
        have GG2 := Lib.hid (fun (X : World) (h : Below w.heap.size w X) => GG.out ai X h)
        rw [HGV.out] at GG2
        have z1 := (HZ.out _ HB.out).2.1
        go_wp2_with fail
        refine (GG2.out _ HB.out).mono ?_
        rintro e w3 ⟨rfl, hb3⟩
        have HB3 := Lib.hid (HB.out.trans (hb3.mono HB.out.size))
        have HO3 := Lib.hid (HO.out.below hb3)
        clear hb3 z1
        obtain ⟨z0, z1, z2, z3, z4, z5⟩ := HZ.out _ HB3.out
        by_cases hg : gv < 0 ∨ ak ≠ 4
        · have HKT : Hid ((m.take (k + 1)).filter (keepA l) = P ++ [⟨ak, ai, ap, an, ad, aA, aC, ao⟩]) := Lib.hid (by
            rw [HFS.out, if_pos]
            rw [HKE.out, Bool.or_eq_true]
            rcases hg with h | h
            · exact .inl (decide_eq_true h)
            · exact .inr (decide_eq_true h))
          by_cases hg0 : gv < 0
          · clear hg
            go_wp2_with (at_builtin
                         refine wpList_acts_app rfl (.tmp 42) (.tmp 47) rfl (B := w.heap.size) (out := P) (m := [⟨ak, ai, ap, an, ad, aA, aC, ao⟩]) (HO3.out.alloc (.cells (actCells ⟨ak, ai, ap, an, ad, aA, aC, ao⟩).toArray 31)) (by have := HB3.out.size; simp; omega) 1 (actn_lit w3 ⟨ak, ai, ap, an, ad, aA, aC, ao⟩ _ rfl) (by have := HFL.out; simp; omega) rfl rfl ?_
                         intro A4 c4 w4 hown hbel
                         have HO4 := Lib.hid hown
                         have HB4 := Lib.hid ((HB3.out.alloc HB3.out.size (.cells (actCells ⟨ak, ai, ap, an, ad, aA, aC, ao⟩).toArray 31)).trans hbel)
                         clear hown hbel)
            go_roundw
            case rel => exact ⟨k + 1, A4, c4, by omega, by rw [HKT.out, List.length_append]; rfl, by go_num, by rw [HKT.out]; exact HO4, HB4⟩
            case measure => simp [intOf]; omega
          · have h4 : ak ≠ 4 := by omega
            have hk4 : (ak != 4) = true := bne_iff_ne.2 h4
            clear hg h4
            go_wp2_with (at_builtin
                         refine wpList_acts_app rfl (.tmp 42) (.tmp 47) rfl (B := w.heap.size) (out := P) (m := [⟨ak, ai, ap, an, ad, aA, aC, ao⟩]) (HO3.out.alloc (.cells (actCells ⟨ak, ai, ap, an, ad, aA, aC, ao⟩).toArray 31)) (by have := HB3.out.size; simp; omega) 1 (actn_lit w3 ⟨ak, ai, ap, an, ad, aA, aC, ao⟩ _ rfl) (by have := HFL.out; simp; omega) rfl rfl ?_
                         intro A4 c4 w4 hown hbel
                         have HO4 := Lib.hid hown
                         have HB4 := Lib.hid ((HB3.out.alloc HB3.out.size (.cells (actCells ⟨ak, ai, ap, an, ad, aA, aC, ao⟩).toArray 31)).trans hbel)
                         clear hown hbel)
            go_roundw
            case rel => exact ⟨k + 1, A4, c4, by omega, by rw [HKT.out, List.length_append]; rfl, by go_num, by rw [HKT.out]; exact HO4, HB4⟩
            case measure => simp [intOf]; omega
        · have HKT : Hid ((m.take (k + 1)).filter (keepA l) = P) := Lib.hid (by
            rw [HFS.out, if_neg, List.append_nil]
            rw [HKE.out, Bool.or_eq_true]
            rintro (h | h)
            · exact hg (.inl (of_decide_eq_true h))
            · exact hg (.inr (of_decide_eq_true h)))
          have hg0 : ¬ gv < 0 := fun h => hg (.inl h)
          have h4 : ak = 4 := by omega
          have hk4 : (ak != 4) = false := by rw [h4]; rfl
          clear hg h4
          go_wp2
          go_roundw
          case rel => exact ⟨k + 1, A1, c1, by omega, by rw [HKT.out], by go_num, by rw [HKT.out]; exact HO3, HB3⟩
          case measure => simp [intOf]; omega
      · obtain rfl : k = m.length := by omega
        have HACF : Hid (∀ a ∈ (m.take m.length).filter (keepA l), ActH a) := Lib.hid (fun a ha => HACT.out a (List.mem_of_mem_take (List.mem_filter.1 ha).1))
        have HFL : Hid (((m.take m.length).filter (keepA l)).length ≤ 4000) := Lib.hid (by
          have h1 := List.length_filter_le (keepA l) (m.take m.length)
          rw [List.length_take] at h1
          omega)
        have HIDLE : Hid (overK (l.map (·.k)) ((m.take m.length).filter (keepA l)) = l.map (·.k)) := Lib.hid keepA_idle
        have HAF : Hid (∀ X : World, Below w.heap.size w X → OwnA X w.heap.size A1 c1 ((m.take m.length).filter (keepA l)) → ActsAt X A1 ((m.take m.length).filter (keepA l))) := Lib.hid (fun X h ho => ⟨ho.at_, fun y hy => (HBT.out X h).2 y (List.mem_of_mem_take (List.mem_filter.1 hy).1)⟩)
        generalize (m.take m.length).filter (keepA l) = F at HO HACF HFL HIDLE HAF ⊢
        have HGK : Hid (∀ y ∈ l, y.Good ∧ KeyH y.k) := Lib.hid (fun y hy => ⟨HGL.out y hy, HKEY.out y hy⟩)
        have HLM : Hid ((l.map (·.k)).length = l.length) := Lib.hid (by rw [List.length_map])
        have GVA := Lib.hid (fun (A3 : Option Addr) (c3 : Nat) (hc3 : l.length ≤ c3) (X : World) (h : Below w.heap.size w X) (hat : OnesAt X A3 l) (ho : OwnA X w.heap.size A1 c1 F) => effOver_any A3 c3 l (by omega) hc3 HGK.out A1 c1 F (by have := HFL.out; omega) ho.cap HACF.out X hat (HAF.out X h ho))
        rw [HIDLE.out] at GVA
        have GVB := Lib.hid (fun (A3 : Option Addr) (c3 : Nat) (hc3 : l.length ≤ c3) (X : World) (h : Below w.heap.size w X) (hat : OnesAt X A3 l) => effOver_any A3 c3 l (by omega) hc3 HGK.out B d m (by omega) HBC.out HACT.out X hat (HBT.out X h))
        have HOV : Hid (∀ L2 : List OneV, L2.map (·.k) = overK (l.map (·.k)) m → L2.length = l.length ∧ ∀ (j : Nat) (h1 : j < L2.length) (h2 : j < l.length), L2[j].k = overOne m l[j].k) := Lib.hid (fun L2 h => by
          have hlen : L2.length = l.length := by
            have := congrArg List.length h
            simpa [overK] using this
          refine ⟨hlen, fun j h1 h2 => ?_⟩
          have := congrArg (fun q => q[j]?) h
          simpa [overK, List.getElem?_map, List.getElem?_eq_getElem h1, List.getElem?_eq_getElem h2] using this)
        clear HIDLE HACF HFL HAF GG
        go_wp2_with fail
        refine (GM.out _ HB.out).mono ?_
        rintro e w3 ⟨⟨A3, c3, rfl, hat3, hc3⟩, hb3⟩
        have HB3 := Lib.hid (HB.out.trans (hb3.mono HB.out.size))
        have GV1 := Lib.hid (GVA.out A3 c3 hc3 w3 HB3.out hat3 (HO.out.below hb3))
        clear hb3 hat3 hc3 GVA
        go_wp2_with fail
        refine GV1.out.mono ?_
        rintro e w4 ⟨⟨v, rfl, A4, c4, L1, rfl, hat4, hk4, hg4, _⟩, hb4⟩
        have HB4 := Lib.hid (HB3.out.trans (hb4.mono HB3.out.size))
        have hl1 : L1.length = l.length := by have := congrArg List.length hk4; simpa using this
        have HAT4 := Lib.hid hat4
        have HK4 := Lib.hid hk4
        have HG4 := Lib.hid hg4
        clear hb4 hat4 hk4 hg4 GV1
        go_wp2_with fail
        refine (GM.out _ HB4.out).mono ?_
        rintro e w5 ⟨⟨A5, c5, rfl, hat5, hc5⟩, hb5⟩
        have HB5 := Lib.hid (HB4.out.trans (hb5.mono HB4.out.size))
        replace HAT4 := Lib.hid (HAT4.out.below hb5)
        have GV2 := Lib.hid (GVB.out A5 c5 hc5 w5 HB5.out hat5)
        clear hb5 hat5 hc5 GVB GM
        go_wp2_with fail
        refine GV2.out.mono ?_
        rintro e w6 ⟨⟨v, rfl, A6, c6, L2, rfl, hat6, hk6, hg6, hc6⟩, hb6⟩
        have HB6 := Lib.hid (HB5.out.trans (hb6.mono HB5.out.size))
        obtain ⟨hl2, hj2⟩ := HOV.out L2 hk6
        have HJ2 := Lib.hid hj2
        have HAT6 := Lib.hid hat6
        have HC6 := Lib.hid hc6
        have GF := Lib.hid (flat_any A4 c4 L1 (by omega) w6 (HAT4.out.below hb6))
        rw [hl1] at GF
        clear hb6 hat6 hk6 hg6 hc6 hj2 GV2 HOV
        go_wp2_with fail
        refine GF.out.mono ?_
        rintro e w7 ⟨⟨A7, c7, rfl, hat7, _⟩, hb7⟩
        have HB7 := Lib.hid (HB6.out.trans (hb7.mono HB6.out.size))
        have GSO := Lib.hid (sameOnes_eq A7 A c7 c L1 l (by rw [hl1]; exact HL0.out) HG4.out HGL.out HK4.out w7 hat7 (HAT.out w7 HB7.out))
        rw [hl1] at GSO
        have HN6 := Lib.hid hb7
        clear hb7 hat7 GF
        go_wp2_with fail
        refine GSO.out.mono ?_
        rintro e w8 ⟨rfl, hb8⟩
        have HB8 := Lib.hid (HB7.out.trans (hb8.mono HB7.out.size))
        replace HN6 := Lib.hid (HN6.out.trans (hb8.mono HN6.out.size))
        clear hb8 GSO
        have hln : ((L2.length : Int) != (l.length : Int)) = false := by rw [hl2]; simp
        go_wp2
        go_loopw [9, 10] (fun s9 s10 wr => ∃ j : Nat, j ≤ l.length ∧ s9 = .int .i64 (j : Int) ∧ s10 = s10 ∧ Hid (Below w.heap.size w wr) ∧ Hid (Below w6.heap.size w6 wr)) (fun s9 _ _ => l.length - (intOf s9).toNat)
        case atStart => exact ⟨0, Nat.zero_le _, rfl, rfl, HB8, HN6⟩
        case round =>
          clear HB8 HN6
          obtain ⟨j, hj, rfl, _, HBr, HNr⟩ := hrel
          obtain ⟨wi, hwi⟩ : ∃ x, x = wr := ⟨wr, rfl⟩
          subst hwi
          by_cases hjl : j < l.length
          · have hj2 : j < L2.length := by omega
            have hjI : (j : Int) < (l.length : Int) := by omega
            have hat := HAT6.out.below HNr.out
            obtain ⟨b6, o6, rfl, _⟩ := hat.form (by omega)
            obtain ⟨A8, hsl, hat8⟩ := ones_one hat HC6.out hj2
            rw [hl2] at hsl
            have GF2 := Lib.hid (flat_any A8 (c6 - j) [L2[j]] (by simp) wi hat8)
            rw [List.length_singleton] at GF2
            have HYK := Lib.hid (HJ2.out j hj2 hjl)
            obtain ⟨b, off, rfl, _⟩ := (HAT.out _ HBr.out).form (by omega)
            have HX := Lib.hid (fun (X : World) (h : Below w.heap.size w X) => (HAT.out X h).at_ hjl)
            clear hat hat8
            generalize L2[j] = y at GF2 HYK
            go_wp2_with fail
            refine GF2.out.mono ?_
            rintro e w9 ⟨⟨A9, c9, rfl, hat9, _⟩, hb9⟩
            have HB9 := Lib.hid (HBr.out.trans (hb9.mono HBr.out.size))
            have HN9 := Lib.hid (HNr.out.trans (hb9.mono HNr.out.size))
            obtain ⟨b9, o9, rfl, _⟩ := hat9.form (by simp)
            obtain ⟨y0, y1, y2, y3, y4, y5, y6, y7⟩ := hat9.at_ (i := 0) (by simp)
            simp only [List.getElem_cons_zero, Nat.zero_mul, Nat.add_zero] at y0 y1 y2 y3 y4 y5 y6 y7
            clear hb9 hat9 GF2
            have hsm := overOne_same m l[j].k
            rw [← HYK.out] at hsm
            clear HYK
            generalize l[j] = x at HX hsm
            obtain ⟨⟨xi, xo, xe, xr, xc, xm, xp, xn⟩, xA, xC⟩ := x
            obtain ⟨⟨yi, yo, ye, yr, yc, ym, yp, yn⟩, yA, yC⟩ := y
            simp only at hsm y0 y1 y2 y3 y4 y5 y6 y7 HX
            obtain ⟨rfl, rfl, rfl, rfl, rfl, rfl, rfl⟩ := hsm
            have HBz := Lib.hid (HB9.out.alloc HB9.out.size (.cells #[.int .i64 yi, .slice yA yo.length yC, .bool ye, .bool yr, .bool yc, .bool ym, .int .i64 yp, .string (bstr yn)] 50))
            have HNz := Lib.hid (HN9.out.alloc HN9.out.size (.cells #[.int .i64 yi, .slice yA yo.length yC, .bool ye, .bool yr, .bool yc, .bool ym, .int .i64 yp, .string (bstr yn)] 50))
            have gs1 : (yi != yi) = false := by simp
            have gs2 : (ye != ye) = false := by simp
            have gs3 : (yr != yr) = false := by simp
            have gs4 : (yc != yc) = false := by simp
            have gs5 : (ym != ym) = false := by simp
            have gs6 : (yp != yp) = false := by simp
            have gs7 : ((bstr yn).toList != (bstr yn).toList) = false := by simp
            have HRW := Lib.hid (eight_new w9 50 (.int .i64 yi) (.slice yA yo.length yC) (.bool ye) (.bool yr) (.bool yc) (.bool ym) (.int .i64 yp) (.string (bstr yn)))
            go_wp2_with fail
            simp only [List.append_eq, List.cons_append, List.nil_append]
            refine wp_region_lit [(0, true), (1, true), (2, true), (3, true), (4, true), (5, true), (6, true), (7, true), (8, true), (9, true), (10, true), (11, true), (12, true), (13, true), (14, true), (15, true), (16, true), (17, true), (18, true), (19, true), (20, true), (21, true), (22, true), (23, true), (24, true), (25, true), (26, true), (27, true), (28, true), (29, true), (30, true), (31, true), (32, true), (33, true), (34, true), (35, true), (36, true), (37, true), (38, true), (39, true), (40, true), (41, true), (42, true), (43, true), (44, true), (45, true), (46, true), (47, true), (48, true), (49, true), (50, true), (51, true), (52, true), (53, true), (54, true), (55, true), (56, true), (57, true), (58, true), (59, true), (60, true), (61, true), (62, true), (63, true), (64, true), (65, true), (66, true), (67, true)] (by kernel_rfl) (by kernel_rfl) (fun _ _ d _ _ h => by cases d <;> exact h) ?_
            simp only [picked, List.map_cons, List.map_nil, List.getElem?_cons_succ, List.getElem?_cons_zero, Option.getD_some]
            replace HRW := Lib.hid HRW.out.drew
            replace HBz := Lib.hid HBz.out.drew
            replace HNz := Lib.hid HNz.out.drew
            generalize World.drew _ = wd at HRW HBz HNz ⊢
            clear y0 y1 y2 y3 y4 y5 y6 y7
            have x0 := fun e : Ext wd => (HX.out e.val (HBz.out.trans (e.property.mono HBz.out.size))).1
            have x1 := fun e : Ext wd => (HX.out e.val (HBz.out.trans (e.property.mono HBz.out.size))).2.1
            have x2 := fun e : Ext wd => (HX.out e.val (HBz.out.trans (e.property.mono HBz.out.size))).2.2.1
            have x3 := fun e : Ext wd => (HX.out e.val (HBz.out.trans (e.property.mono HBz.out.size))).2.2.2.1
            have x4 := fun e : Ext wd => (HX.out e.val (HBz.out.trans (e.property.mono HBz.out.size))).2.2.2.2.1
            have x5 := fun e : Ext wd => (HX.out e.val (HBz.out.trans (e.property.mono HBz.out.size))).2.2.2.2.2.1
            have x6 := fun e : Ext wd => (HX.out e.val (HBz.out.trans (e.property.mono HBz.out.size))).2.2.2.2.2.2.1
            have x7 := fun e : Ext wd => (HX.out e.val (HBz.out.trans (e.property.mono HBz.out.size))).2.2.2.2.2.2.2
            have r0 := fun e : Ext wd => Ext.cell (eight_cells HRW.out).1 e
            have r1 := fun e : Ext wd => Ext.cell (eight_cells HRW.out).2.1 e
            have r2 := fun e : Ext wd => Ext.cell (eight_cells HRW.out).2.2.1 e
            have r3 := fun e : Ext wd => Ext.cell (eight_cells HRW.out).2.2.2.1 e
            have r4 := fun e : Ext wd => Ext.cell (eight_cells HRW.out).2.2.2.2.1 e
            have r5 := fun e : Ext wd => Ext.cell (eight_cells HRW.out).2.2.2.2.2.1 e
            have r6 := fun e : Ext wd => Ext.cell (eight_cells HRW.out).2.2.2.2.2.2.1 e
            have r7 := fun e : Ext wd => Ext.cell (eight_cells HRW.out).2.2.2.2.2.2.2 e
            repeat (first | (refine wpL_quiet (by rfl) (fun K hK => ?_); go_big_quiet_op; refine hK _ ?_; clear hK K) | (refine wpL_skip (by rfl) ?_; simp only [Act.put, List.setIfInBounds_toArray, List.set_cons_zero, List.set_cons_succ]) | (simp only [gs1, gs2, gs3, gs4, gs5, gs6, gs7, Bool.not_true, Bool.not_false, Bool.or_false, Bool.false_or, Bool.true_or, Bool.or_true, Bool.false_and, Bool.true_and, Bool.and_true, Bool.and_false]))
            refine wpL_nil ?_
            go_wp2
            go_roundw
            case rel => exact ⟨j + 1, by omega, by go_num, trivial, HBz, HNz⟩
            case measure => simp [intOf]; omega
          · obtain rfl : j = l.length := by omega
            go_wp2_with fail
            refine (GA.out _).mono ?_
            rintro e w10 ⟨rfl, hb10⟩
            have HBe := Lib.hid (HBr.out.trans (hb10.mono HBr.out.size))
            go_wp2
            go_ret
            exact ⟨rfl, HBe.out⟩
end Go.Proofs.Ytnadhpajelkngaa

/- Seen from behind acts on others, what was done is as it was; what was done to whom is found by its ID alone: it answers true and changes nothing. No condition. -/
namespace Go.Proofs.Ytnadhpajelkngaa
open Go.ChangeShapes Go.WideShapes Go.ChangeAt Go.RowKit

set_option maxRecDepth 100000 in
theorem effectKeeps_lifted (os : Os) (started : os.Started) (H : Type) (enc : TypeId × Value → H) :
    ReturnsInHanded {} Try.checked os 5 .any (Rows.effectKeepsSpec.pre6 enc Try.prog Try.f5 Rows.effectKeepsRow.domain false) (Rows.effectKeepsSpec.post enc Try.prog Try.f5 false true false false) := by
  refine returnsInHanded_of_change (C := Try.checked) law_own started (by kernel_rfl) Try.func5
    (ChangeSpec.witness6 (enc := enc) (C := Try.checked) false ⟨#[], #[.slice none 0 0, .slice none 0 0], []⟩ 8 (by kernel_rfl) (by kernel_rfl) (by kernel_rfl) (by kernel_rfl)) ?_
  intro W base args ds gs before hval0 hW _ _
  have hval : ∀ (j : Nat) t v, Try.f5.params[j]? = some t → args[j]? = some v → Value.okWide Try.prog W .any base t v := hval0
  have hW' := hW
  obtain ⟨p, q, hA0, hV, rfl, _, _⟩ := hW
  have hlt : ∀ x ∈ p ++ q, x.block < W.heap.size := fun x hx => hW'.lt x hx
  have hA : DataW.TrodAll enc Try.prog W 0 (fun _ => true) true Try.f5.params.toList args.toList ds p := hA0
  rw [Try.params5] at hA hval
  obtain ⟨v0, v1, d0, d1, p0, p1, rfl, rfl, rfl, h0, h1⟩ := trodAll_two hA
  obtain ⟨rfl, rfl⟩ := trodVars_none hV
  obtain ⟨A0, l0, c0, rfl, hat0, hg0, hlc0, hc0⟩ := open_ones (hval 0 44 v0 rfl rfl) h0 (fun x hx => hlt x (by simp [hx]))
  have hl0 : l0.length ≤ maxLen := by omega
  obtain ⟨A1, l1, c1, rfl, hat1, hg1, hlc1, hc1⟩ := open_acts (hval 1 32 v1 rfl rfl) h1 (fun x hx => hlt x (by simp [hx]))
  have hl1 : l1.length ≤ maxLen := by omega
  clear hA0 hval0
  refine (effectKeeps_any A0 l0 c0 A1 l1 c1 hl0 hg0 hl1 hg1 W ⟨hat0, hlc0⟩ ⟨hat1, hlc1⟩).mono fun e W' ⟨he, hb⟩ => ?_
  exact ⟨_, he, law_post law_laid (by kernel_rfl) (by kernel_rfl) Try.underlying4 rfl hW' rfl hb⟩

theorem effectKeeps_holds : Rows.EffectKeepsSaid :=
  OpenClaim.holds_of_wide 5 Try.f5 rfl rfl rfl rfl rfl rfl rfl ⟨rfl, rfl, rfl, rfl, rfl⟩ rfl rfl rfl rfl rfl (by kernel_rfl) Try.func5 (by kernel_rfl)
    (of_decide_eq_true (by kernel_rfl)) (by unfold Func.isWrapper; first | (rw [if_pos (by decide +kernel)]; kernel_rfl) | (rw [if_neg (by decide +kernel)]; exact ⟨rfl, rfl⟩))
    (fun os started H enc _ => effectKeeps_lifted os started H enc)
end Go.Proofs.Ytnadhpajelkngaa
