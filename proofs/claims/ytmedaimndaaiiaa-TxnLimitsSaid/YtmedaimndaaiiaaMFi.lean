/- The landed tree: the place of an ID, who has a name, why nothing may stand in a parent. Conditions: nodes by rising ID, no more than 2^40; names that may be. (Merged of 3 texts.) -/
import Derived.Test.YtmedaimndaaiiaaMPt
import Derived.Test.YtmedaimndaaiiaaMNd
/- The landed tree: all its nodes, the place of an ID among them by halving. Conditions: nodes by rising ID, no more than 2^40. -/
namespace Go.Proofs.Ytmedaimndaaiiaa
open Go.RowKit Go.Deep

abbrev Srt (l : List NodeV) : Prop := l.Pairwise fun a b => a.id < b.id
theorem rAt_eq {l : List NodeV} {id : Int} {i : Nat} (hi : i ≤ l.length) (h1 : ∀ (k : Nat) (hk : k < l.length), k < i → l[k].id < id) (h2 : ∀ hk : i < l.length, ¬ l[i].id < id) : rAt l id = i := by
  rcases Nat.lt_trichotomy (rAt l id) i with h | h | h
  · exact absurd (h1 _ (by omega) h) (rAt_ge (by omega))
  · exact h
  · obtain ⟨hl, h3⟩ := rAt_lt h
    exact absurd h3 (h2 hl)
/-- Where it is found, there it would be. -/
theorem srt_at {l : List NodeV} (hs : Srt l) {k : Nat} {id : Int} (hf : rFind l id = some k) : rAt l id = k := by
  obtain ⟨hk, e, _⟩ := rFind_some hf
  refine rAt_eq (by omega) (fun j hj hjk => ?_) (fun h => by omega)
  have := List.pairwise_iff_getElem.1 hs j k hj hk hjk
  omega
/-- Who is not where it would be is not there. -/
theorem srt_no {l : List NodeV} (hs : Srt l) {id : Int} (h : ∀ hk : rAt l id < l.length, l[rAt l id].id ≠ id) : rFind l id = none := by
  refine rFind_no fun y hy e => ?_
  obtain ⟨j, hj⟩ := List.getElem?_of_mem hy
  obtain ⟨hjl, hj⟩ := List.getElem?_eq_some_iff.1 hj
  rcases Nat.lt_trichotomy j (rAt l id) with g | g | g
  · obtain ⟨_, h3⟩ := rAt_lt g
    rw [hj] at h3
    omega
  · subst g
    exact h hjl (by rw [hj]; exact e)
  · have hr : rAt l id < l.length := by omega
    have h1 := rAt_ge hr
    have h2 := List.pairwise_iff_getElem.1 hs _ j hr hjl g
    rw [hj] at h2
    omega
theorem srt_yes {l : List NodeV} (hs : Srt l) {id : Int} (hk : rAt l id < l.length) (h : l[rAt l id].id = id) : rFind l id = some (rAt l id) := by
  refine rFind_yes hk h fun j hj hjk e => ?_
  have := List.pairwise_iff_getElem.1 hs j _ hj hk hjk
  omega

set_option maxRecDepth 100000 in
theorem all_any (p : Option Addr) (l : List NodeV) (w : World) (h : TPtr w p l) :
    Calls Try.prog 19 #[.pointer p] w fun e w' => ∃ A c, e = .returned (.slice A l.length c) ∧ w = w' ∧ NodesC w A c l := by
  rcases h with ⟨rfl, rfl⟩ | ⟨g, rfl, A, c, hr, hn⟩
  · go_enter Try.func19, Try.ntmps19
    go_wp2
    go_ret
    exact ⟨none, 0, rfl, rfl, .inl rfl, Nat.le_refl _⟩
  · have hc := hr.cell (i := 0) (by omega)
    have HN := Lib.hid hn
    clear hr hn
    go_enter Try.func19, Try.ntmps19
    go_wp2
    go_ret
    exact ⟨A, c, rfl, rfl, HN.out⟩

def cmpI (x y : Int) : Int := if x < y then -1 else if y < x then 1 else 0
theorem cmpI_lt {x y : Int} : cmpI x y < 0 ↔ x < y := by
  unfold cmpI
  by_cases h : x < y
  · rw [if_pos h]; omega
  · rw [if_neg h]
    by_cases g : y < x
    · rw [if_pos g]; omega
    · rw [if_neg g]; omega
theorem cmpI_zero {x y : Int} : cmpI x y = 0 ↔ x = y := by
  unfold cmpI
  by_cases h : x < y
  · rw [if_pos h]; omega
  · rw [if_neg h]
    by_cases g : y < x
    · rw [if_pos g]; omega
    · rw [if_neg g]; omega

set_option maxRecDepth 100000 in
theorem cmpInt_any (x y : Int) (w : World) :
    Calls Try.prog 56 #[.int .i64 x, .int .i64 y] w fun e w' => e = .returned (.int .i64 (cmpI x y)) ∧ w = w' := by
  have hx : (x != x) = false := by simp
  have hy : (y != y) = false := by simp
  rcases Int.lt_trichotomy x y with h | h | h
  · have e : cmpI x y = -1 := by unfold cmpI; rw [if_pos h]
    rw [e]
    go_enter Try.func56, Try.ntmps56
    go_wp2
    go_ret
    exact ⟨rfl, rfl⟩
  · have e : cmpI x y = 0 := by unfold cmpI; rw [if_neg (by omega), if_neg (by omega)]
    rw [e]
    have h1 : ¬ x < y := by omega
    have h2 : ¬ y < x := by omega
    go_enter Try.func56, Try.ntmps56
    go_wp2
    go_ret
    exact ⟨rfl, rfl⟩
  · have e : cmpI x y = 1 := by unfold cmpI; rw [if_neg (by omega), if_pos h]
    rw [e]
    have h1 : ¬ x < y := by omega
    go_enter Try.func56, Try.ntmps56
    go_wp2
    go_ret
    exact ⟨rfl, rfl⟩

set_option maxRecDepth 100000 in
theorem atCmp_any (y : NodeV) (id : Int) (w : World) :
    Calls Try.prog 55 #[.agg (nodeCells y).toArray, .int .i64 id] w fun e w' => e = .returned (.int .i64 (cmpI y.id id)) ∧ Below w.heap.size w w' := by
  have G := Lib.hid (fun w => cmpInt_any y.id id w)
  obtain ⟨T, HT⟩ : ∃ T, Hid (cmpI y.id id = T) := ⟨_, Lib.hid rfl⟩
  rw [HT.out] at G ⊢
  unfold nodeCells
  go_enter Try.func55, Try.ntmps55
  go_wp2_with fail
  refine (G.out _).mono ?_
  rintro e w' ⟨rfl, rfl⟩
  go_wp2
  go_ret
  exact ⟨rfl, (Below.refl _ _).alloc (Nat.le_refl _) _⟩
end Go.Proofs.Ytmedaimndaaiiaa

/- Where an ID is among nodes by rising ID, by halving. Conditions: nodes by rising ID, no more than 2^40. -/
namespace Go.Proofs.Ytmedaimndaaiiaa
open Go.RowKit Go.Deep

set_option maxHeartbeats 1000000 in
set_option maxRecDepth 100000 in
theorem search_any (A : Option Addr) (c : Nat) (l : List NodeV) (id : Int) (hs : Srt l) (hl : l.length ≤ 1099511627776) (w : World) (hA : NodesAt w A l) :
    Calls Try.prog 54 #[.slice A l.length c, .int .i64 id, .func (.func 55) #[] #[]] w fun e w' => e = .returned (.tuple #[.int .i64 (rAt l id : Nat), .bool (rFind l id).isSome]) ∧ Below w.heap.size w w' := by
  have HA := Lib.hid hA; clear hA
  have HS := Lib.hid hs; clear hs
  have hle := rAt_le l id
  obtain ⟨T, HT⟩ : ∃ T, Hid (rAt l id = T) := ⟨_, Lib.hid rfl⟩
  obtain ⟨F, HF⟩ : ∃ F, Hid ((rFind l id).isSome = F) := ⟨_, Lib.hid rfl⟩
  rw [HT.out, HF.out]
  rw [HT.out] at hle
  have G := Lib.hid (fun y w => atCmp_any y id w)
  go_enter Try.func54, Try.ntmps54
  go_wp2
  go_loopw [9, 10, 11] (fun s9 s10 s11 wr => ∃ i j : Nat, i ≤ j ∧ j ≤ l.length ∧ s9 = .int .i64 (i : Int) ∧ s10 = .int .i64 (j : Int) ∧ s11 = s11 ∧ Hid (Below w.heap.size w wr) ∧ Hid (∀ (k : Nat) (hk : k < l.length), k < i → l[k].id < id) ∧ Hid (∀ (k : Nat) (hk : k < l.length), j ≤ k → id ≤ l[k].id)) (fun i j _ _ => (intOf j).toNat - (intOf i).toNat)
  case atStart => exact ⟨0, l.length, Nat.zero_le _, Nat.le_refl _, rfl, rfl, rfl, Below.refl _ _, fun k _ h => by omega, fun k _ h => by omega⟩
  case round =>
    obtain ⟨i, j, hij, hj, rfl, rfl, _, HB, H1, H2⟩ := hrel
    by_cases hlt : i < j
    · have hijI : (i : Int) < (j : Int) := by omega
      have hhl : (i + j) / 2 < l.length := by omega
      have NA := HA.out.below HB.out
      obtain ⟨b, off, rfl, _⟩ := NA.form (by omega)
      obtain ⟨c0, c1, c2, c3, c4⟩ := NA.at_ hhl
      have HY := Lib.hid (fun (k : Nat) (hk : k < l.length) (h : k ≤ (i + j) / 2) => show l[k].id ≤ l[(i + j) / 2].id from by
        rcases Nat.lt_or_ge k ((i + j) / 2) with g | g
        · have := List.pairwise_iff_getElem.1 HS.out k _ hk hhl g; omega
        · obtain rfl : k = (i + j) / 2 := by omega
          exact Int.le_refl _)
      have HZ := Lib.hid (fun (k : Nat) (hk : k < l.length) (h : (i + j) / 2 ≤ k) => show l[(i + j) / 2].id ≤ l[k].id from by
        rcases Nat.lt_or_ge ((i + j) / 2) k with g | g
        · have := List.pairwise_iff_getElem.1 HS.out _ k hhl hk g; omega
        · obtain rfl : k = (i + j) / 2 := by omega
          exact Int.le_refl _)
      generalize l[(i + j) / 2] = y at c0 c1 c2 c3 c4 HY HZ
      have Gy := Lib.hid (G.out y)
      clear NA
      by_cases hc : y.id < id
      · have hneg := cmpI_lt.2 hc
        obtain ⟨r, hr⟩ : ∃ r, r = cmpI y.id id := ⟨_, rfl⟩
        unfold nodeCells at Gy
        rw [← hr] at Gy hneg
        go_wp2_with fail
        refine (Gy.out _).mono ?_
        rintro e w' ⟨rfl, hb⟩
        have HB2 := Lib.hid (HB.out.trans (hb.mono HB.out.size))
        clear hb
        go_wp2
        go_roundw
        case rel => exact ⟨(i + j) / 2 + 1, j, by omega, hj, by go_num, rfl, trivial, HB2, fun k hk h => by have := HY.out k hk (by omega); omega, H2⟩
        case measure => simp [intOf]; omega
      · have hneg : ¬ cmpI y.id id < 0 := fun h => hc (cmpI_lt.1 h)
        obtain ⟨r, hr⟩ : ∃ r, r = cmpI y.id id := ⟨_, rfl⟩
        unfold nodeCells at Gy
        rw [← hr] at Gy hneg
        go_wp2_with fail
        refine (Gy.out _).mono ?_
        rintro e w' ⟨rfl, hb⟩
        have HB2 := Lib.hid (HB.out.trans (hb.mono HB.out.size))
        clear hb
        go_wp2
        go_roundw
        case rel => exact ⟨i, (i + j) / 2, by omega, by omega, rfl, by go_num, trivial, HB2, H1, fun k hk h => by have := HZ.out k hk (by omega); omega⟩
        case measure => simp [intOf]; omega
    · obtain rfl : i = j := by omega
      have HTi : Hid (T = i) := by
        show T = i
        rw [← HT.out]
        exact rAt_eq hj H1.out (fun hk => by have := H2.out i hk (Nat.le_refl _); omega)
      by_cases hil : i < l.length
      · have NA := HA.out.below HB.out
        obtain ⟨b, off, rfl, _⟩ := NA.form (by omega)
        obtain ⟨c0, c1, c2, c3, c4⟩ := NA.at_ hil
        have HFy : Hid (F = decide (l[i].id = id)) := by
          show F = _
          have hT : rAt l id = i := by rw [HT.out]; exact HTi.out
          by_cases e : l[i].id = id
          · rw [← HF.out, srt_yes HS.out (by rw [hT]; exact hil) (by simp only [hT]; exact e), decide_eq_true e]
            rfl
          · rw [← HF.out, srt_no HS.out (fun hk => by simp only [hT]; exact e), decide_eq_false e]
            rfl
        generalize l[i] = y at c0 c1 c2 c3 c4 HFy
        have Gy := Lib.hid (G.out y)
        unfold nodeCells at Gy
        have HZ := Lib.hid (cmpI_zero (x := y.id) (y := id))
        obtain ⟨r, hr⟩ : ∃ r, r = cmpI y.id id := ⟨_, rfl⟩
        rw [← hr] at Gy HZ
        clear NA hr
        by_cases hz : r = 0
        · have HF2 : Hid (F = true) := by show F = true; rw [HFy.out, decide_eq_true (HZ.out.1 hz)]
          subst hz
          clear HFy HZ
          go_wp2_with fail
          refine (Gy.out _).mono ?_
          rintro e w' ⟨rfl, hb⟩
          go_wp2
          go_ret2
          exact ⟨by rw [HTi.out, HF2.out]; rfl, HB.out.trans (hb.mono HB.out.size)⟩
        · have HF2 : Hid (F = false) := by show F = false; rw [HFy.out, decide_eq_false (fun e => hz (HZ.out.2 e))]
          have hz2 : (r == 0) = false := beq_eq_false_iff_ne.2 hz
          clear HFy HZ hz
          go_wp2_with fail
          refine (Gy.out _).mono ?_
          rintro e w' ⟨rfl, hb⟩
          go_wp2
          go_ret2
          exact ⟨by rw [HTi.out, HF2.out]; rfl, HB.out.trans (hb.mono HB.out.size)⟩
      · have HF2 : Hid (F = false) := by
          show F = false
          rw [← HF.out, srt_no HS.out (fun hk => by rw [HT.out, HTi.out] at hk; omega)]
          rfl
        have hil' : ¬ (i : Int) < (l.length : Int) := by omega
        go_wp2
        go_ret2
        exact ⟨by rw [HTi.out, HF2.out]; rfl, HB.out⟩
end Go.Proofs.Ytmedaimndaaiiaa

/- The landed tree: the place of an ID, who has a name, why nothing may stand in a parent. Conditions: nodes by rising ID, no more than 2^40; names that may be. -/
namespace Go.Proofs.Ytmedaimndaaiiaa
open Go.RowKit Go.Deep

set_option maxRecDepth 100000 in
theorem at_any (p : Option Addr) (l : List NodeV) (id : Int) (hs : Srt l) (hl : l.length ≤ 1099511627776) (w : World) (h : TPtr w p l) :
    Calls Try.prog 41 #[.pointer p, .int .i64 id] w fun e w' => e = .returned (.tuple #[.int .i64 (rAt l id : Nat), .bool (rFind l id).isSome]) ∧ Below w.heap.size w w' := by
  have G := Lib.hid (all_any p l w h)
  have GS := Lib.hid (fun A c w hA => search_any A c l id hs hl w hA)
  obtain ⟨T, HT⟩ : ∃ T, Hid (rAt l id = T) := ⟨_, Lib.hid rfl⟩
  obtain ⟨F, HF⟩ : ∃ F, Hid ((rFind l id).isSome = F) := ⟨_, Lib.hid rfl⟩
  rw [HT.out, HF.out] at GS ⊢
  clear h hs
  go_enter Try.func41, Try.ntmps41
  go_wp2_with fail
  refine (G.out).mono ?_
  rintro e w' ⟨A, c, rfl, rfl, hn⟩
  have HN := Lib.hid hn; clear hn
  go_wp2_with fail
  refine (GS.out A c _ HN.out.1).mono ?_
  rintro e w' ⟨rfl, hb⟩
  go_wp2
  go_ret2
  exact ⟨rfl, hb⟩

/-- Has somebody that name there? -/
def chB (l : List NodeV) (p : Int) (n : List Nat) : Bool := l.any fun y => decide (y.parent = p ∧ y.name = n)
def chI (l : List NodeV) (p : Int) (n : List Nat) : Int := if chB l p n = true then rChild l p n else 0
theorem chB_yes {l : List NodeV} {p : Int} {n : List Nat} {y : NodeV} (hy : y ∈ l) (h : y.parent = p ∧ y.name = n) : chB l p n = true := by
  unfold chB
  rw [List.any_eq_true]
  exact ⟨y, hy, decide_eq_true h⟩
theorem chB_no {l : List NodeV} {p : Int} {n : List Nat} (h : ∀ y ∈ l, ¬ (y.parent = p ∧ y.name = n)) : chB l p n = false := by
  unfold chB
  rw [List.any_eq_false]
  intro y hy
  simpa using h y hy
theorem chB_iff {l : List NodeV} {p : Int} {n : List Nat} : chB l p n = true ↔ ∃ y ∈ l, y.parent = p ∧ y.name = n := by
  constructor
  · intro h
    unfold chB at h
    obtain ⟨y, hy, e⟩ := List.any_eq_true.1 h
    exact ⟨y, hy, of_decide_eq_true e⟩
  · rintro ⟨y, hy, e⟩
    exact chB_yes hy e

set_option maxHeartbeats 1000000 in
set_option maxRecDepth 100000 in
theorem child_any (p : Option Addr) (l : List NodeV) (parent : Int) (name : List Nat) (hl : l.length ≤ 1099511627776) (hg : ∀ y ∈ l, y.Good) (hn : ∀ x ∈ name, x < 256) (w : World) (h : TPtr w p l) :
    Calls Try.prog 43 #[.pointer p, .int .i64 parent, .string (bstr name)] w fun e w' => e = .returned (.tuple #[.int .i64 (chI l parent name), .bool (chB l parent name)]) ∧ Below w.heap.size w w' := by
  have G := Lib.hid (all_any p l w h)
  have HG := Lib.hid hg; clear hg
  have HNM := Lib.hid hn; clear hn h
  obtain ⟨T, HT⟩ : ∃ T, Hid (chI l parent name = T) := ⟨_, Lib.hid rfl⟩
  obtain ⟨F, HF⟩ : ∃ F, Hid (chB l parent name = F) := ⟨_, Lib.hid rfl⟩
  rw [HT.out, HF.out]
  go_enter Try.func43, Try.ntmps43
  go_wp2_with fail
  refine (G.out).mono ?_
  rintro e w' ⟨A, c, rfl, rfl, hA⟩
  have HA := Lib.hid hA.1; clear hA
  go_wp2
  go_loopw [6, 7, 9, 13] (fun s6 s7 s9 s13 wr => ∃ k : Nat, k ≤ l.length ∧ s6 = .int .i64 0 ∧ s7 = .bool false ∧ s9 = s9 ∧ s13 = .int .i64 (k : Int) ∧ Hid (Below w.heap.size w wr) ∧ Hid (∀ (j : Nat) (hj : j < l.length), j < k → ¬ (l[j].parent = parent ∧ l[j].name = name))) (fun _ _ _ i _ => l.length - (intOf i).toNat)
  case atStart => exact ⟨0, Nat.zero_le _, rfl, rfl, rfl, rfl, Below.refl _ _, Lib.hid (fun j _ h => by omega)⟩
  case round =>
    obtain ⟨k, hk, rfl, rfl, _, rfl, HB, HN⟩ := hrel
    by_cases hlt : k < l.length
    · have hltI : (k : Int) < (l.length : Int) := by omega
      have NA := HA.out.below HB.out
      obtain ⟨b, off, rfl, _⟩ := NA.form (by omega)
      obtain ⟨c0, c1, c2, c3, c4⟩ := NA.at_ hlt
      have HGK := Lib.hid (HG.out _ (List.getElem_mem hlt)).2.2.1.1
      have HE : Hid (l[k].parent = parent ∧ l[k].name = name → T = l[k].id ∧ F = true) := fun h => by
        have h1 := chB_yes (List.getElem_mem hlt) h
        refine ⟨?_, by rw [← HF.out]; exact h1⟩
        rw [← HT.out, chI, if_pos h1]
        exact rChild_at hlt h HN.out
      have HNN : Hid (¬ (l[k].parent = parent ∧ l[k].name = name) → ∀ (j : Nat) (hj : j < l.length), j < k + 1 → ¬ (l[j].parent = parent ∧ l[j].name = name)) := fun h j hj hjk => by
        rcases Nat.lt_or_ge j k with g | g
        · exact HN.out j hj g
        · obtain rfl : j = k := by omega
          exact h
      generalize l[k].id = y at c0 HE
      generalize l[k].parent = q at c1 HE HNN
      generalize l[k].name = nm at c2 HE HNN HGK
      generalize l[k].dir = dr at c3
      generalize l[k].text = tx at c4
      clear NA
      by_cases he : q = parent
      · by_cases hm : nm = name
        · have HR := Lib.hid (HE.out ⟨he, hm⟩)
          subst he hm
          clear HNN HE
          go_wp2
          go_ret2
          exact ⟨by rw [HR.out.1, HR.out.2]; rfl, HB.out.trans ((Below.refl _ _).alloc HB.out.size _)⟩
        · have HR := Lib.hid (HNN.out fun h => hm h.2)
          have hne : ((bstr nm).toList == (bstr name).toList) = false := bstr_neq fun h => hm (bstr_inj _ _ HGK.out HNM.out h)
          have HB2 : ∀ o, Hid (Below w.heap.size w (wr.alloc o)) := fun o => HB.out.trans ((Below.refl _ _).alloc HB.out.size _)
          subst he
          clear HNN HE hm
          go_wp2
          go_roundw
          case rel => exact ⟨k + 1, by omega, rfl, rfl, trivial, by go_num, HB2 _, HR⟩
          case measure => simp [intOf]; omega
      · have hne : (q == parent) = false := beq_eq_false_iff_ne.2 he
        have HR := Lib.hid (HNN.out fun h => he h.1)
        have HB2 : ∀ o, Hid (Below w.heap.size w (wr.alloc o)) := fun o => HB.out.trans ((Below.refl _ _).alloc HB.out.size _)
        clear HNN HE he
        go_wp2
        go_roundw
        case rel => exact ⟨k + 1, by omega, rfl, rfl, trivial, by go_num, HB2 _, HR⟩
        case measure => simp [intOf]; omega
    · have HR : Hid (T = 0 ∧ F = false) := by
        have h1 : chB l parent name = false := chB_no fun y hy => by
          obtain ⟨j, hj⟩ := List.getElem?_of_mem hy
          obtain ⟨h1, h2⟩ := List.getElem?_eq_some_iff.1 hj
          rw [← h2]
          exact HN.out j h1 (by omega)
        exact ⟨by rw [← HT.out, chI, if_neg (by rw [h1]; decide)], by rw [← HF.out]; exact h1⟩
      have hltI : ¬ (k : Int) < (l.length : Int) := by omega
      go_wp2
      go_ret2
      exact ⟨by rw [HR.out.1, HR.out.2]; rfl, HB.out⟩

set_option maxHeartbeats 1000000 in
set_option maxRecDepth 100000 in
theorem into_any (g : Nat) (l : List NodeV) (parent : Int) (hs : Srt l) (hl : l.length ≤ 1099511627776) (w : World) (h : TreeAt w g l) :
    Calls Try.prog 42 #[.pointer (some ⟨g, 0, none⟩), .int .i64 parent] w fun e w' => e = .returned (.int .i64 (rUp l parent 0)) ∧ Below w.heap.size w w' := by
  have G := Lib.hid (at_any _ l parent hs hl w h.ptr)
  have H := Lib.hid h; clear h
  have HS := Lib.hid hs; clear hs
  obtain ⟨T, HT⟩ : ∃ T, Hid (rUp l parent 0 = T) := ⟨_, Lib.hid rfl⟩
  rw [HT.out]
  by_cases h0 : parent = 0
  · have HR : Hid (T = 0) := by show T = 0; rw [← HT.out, h0, rUp_root]
    subst h0
    go_enter Try.func42, Try.ntmps42
    go_wp2_with fail
    refine (G.out).mono ?_
    rintro e w' ⟨rfl, hb⟩
    have HB := Lib.hid hb; clear hb
    go_wp2
    go_ret
    exact ⟨by rw [HR.out]; rfl, HB.out⟩
  have hne : (parent == 0) = false := beq_eq_false_iff_ne.2 h0
  cases hf : rFind l parent with
  | none =>
    have HR : Hid (T = 5) := by show T = 5; rw [← HT.out, rUp_none 0 h0 hf]
    rw [hf] at G
    clear h0 hf
    go_enter Try.func42, Try.ntmps42
    go_wp2_with fail
    refine (G.out).mono ?_
    rintro e w' ⟨rfl, hb⟩
    have HB := Lib.hid hb; clear hb
    go_wp2
    go_ret
    exact ⟨by rw [HR.out]; rfl, HB.out⟩
  | some k =>
    obtain ⟨hk, _, _⟩ := rFind_some hf
    have HR : Hid (T = if l[k].dir = false then 8 else 0) := by
      show T = _
      rw [← HT.out, rUp_some 0 hk h0 hf]
      by_cases hd : l[k].dir = false
      · rw [if_pos hd, if_pos hd]
      · rw [if_neg hd, if_neg hd, if_neg (by omega)]
    rw [hf, srt_at HS.out hf] at G
    have HC : ∀ w', Hid (Below w.heap.size w w') → ∃ b off c, w'.cell? ⟨g, 0, none⟩ = some (.slice (some ⟨b, off, none⟩) l.length c) ∧ w'.cell? ⟨b, off + k * 5 + 3, none⟩ = some (.bool l[k].dir) := fun w' hb => by
      obtain ⟨A, c, hr, hn⟩ := H.out.below hb.out
      obtain ⟨b, off, rfl, _⟩ := hn.1.form (by omega)
      exact ⟨b, off, c, hr.cell (by omega), (hn.1.at_ hk).2.2.2.1⟩
    have hkI : (k : Int) < (l.length : Int) := by omega
    have HCH := Lib.hid HC; clear HC h0 hf
    cases hd : l[k].dir with
    | false =>
      rw [if_pos hd] at HR
      rw [hd] at HCH
      clear hd
      go_enter Try.func42, Try.ntmps42
      go_wp2_with fail
      refine (G.out).mono ?_
      rintro e w' ⟨rfl, hb⟩
      have HB := Lib.hid hb; clear hb
      obtain ⟨b, off, c, k1, k2⟩ := HCH.out w' HB
      go_wp2
      go_ret
      exact ⟨by rw [HR.out]; rfl, HB.out⟩
    | true =>
      rw [if_neg (by rw [hd]; decide)] at HR
      rw [hd] at HCH
      clear hd
      go_enter Try.func42, Try.ntmps42
      go_wp2_with fail
      refine (G.out).mono ?_
      rintro e w' ⟨rfl, hb⟩
      have HB := Lib.hid hb; clear hb
      obtain ⟨b, off, c, k1, k2⟩ := HCH.out w' HB
      go_wp2
      go_ret
      exact ⟨by rw [HR.out]; rfl, HB.out⟩
end Go.Proofs.Ytmedaimndaaiiaa
