/- The contract of the statements' own awake: what the document fixes. No condition. (Merged of 2 texts.) -/
import Derived.Test.YtnadhpajelkngaaKOne
import Derived.Test.YtnadhpajelkngaaKOf
import Derived.Test.YtnadhpajelkngaaKBeh
import Derived.Test.YtnadhpajelkngaaKGet
import Derived.Test.YtnadhpajelkngaaKCells
import Derived.BigQuiet
/- What the landed effect answers: Of, Get, Over, Same. Conditions: acts and what was done that may be looked at, in slices with room for them. -/
namespace Go.Proofs.Ytnadhpajelkngaa
open Go.RowKit Go.Deep

/-- A row of what was done. -/
def EffRes (w' : World) (v : Value) (ks : List OneK) : Prop := ∃ A' c' L, v = .slice A' (List.length L) c' ∧ OnesAt w' A' L ∧ L.map (·.k) = ks ∧ (∀ y ∈ L, y.Good) ∧ L.length ≤ c'
theorem effRes_of {w' : World} {V : Nat} {A' : Option Addr} {c' : Nat} {L : List OneV} {ks : List OneK} (ho : OwnE w' V A' c' L) (hk : L.map (·.k) = ks) (hm : ∀ y ∈ L, Made1 w' V y) : EffRes w' (.slice A' L.length c') ks :=
  ⟨A', c', L, rfl, ⟨ho.at_, fun y hy => CellsAt.of_own (hm y hy).2⟩, hk, fun y hy => (hm y hy).1, ho.cap⟩
theorem effOf_any (A : Option Addr) (c : Nat) (l : List ActV) (hl : l.length ≤ 1048576) (_hc : l.length ≤ c) (hg : ∀ a ∈ l, ActH a) (w : World) (hA : ActsAt w A l) :
    Calls Try.prog 10 #[.slice A l.length c] w fun e w' => (∃ v, e = .returned v ∧ EffRes w' v (eff l)) ∧ Below w.heap.size w w' :=
  (effOf_walk A c l hl hg w hA).mono fun _ _ ⟨_, hr, _, _, _, he, ⟨_, _, ho, hmd⟩, hk, hb⟩ => ⟨⟨_, he, effRes_of ho (by rw [hk]; exact eff_ranged hr) hmd⟩, hb⟩
theorem effOver_any (A : Option Addr) (c : Nat) (l : List OneV) (hl : l.length ≤ 1048576) (_hc : l.length ≤ c) (hg : ∀ y ∈ l, y.Good ∧ KeyH y.k) (B : Option Addr) (d : Nat) (m : List ActV) (hm : m.length ≤ 1048576) (_hd : m.length ≤ d) (hgm : ∀ a ∈ m, ActH a) (w : World) (hA : OnesAt w A l) (hB : ActsAt w B m) :
    Calls Try.prog 9 #[.slice A l.length c, .slice B m.length d] w fun e w' => (∃ v, e = .returned v ∧ EffRes w' v (overK (l.map (·.k)) m)) ∧ Below w.heap.size w w' :=
  (effOver_made A c l hl hg B d m hm hgm w hA hB).mono fun _ _ ⟨_, _, _, _, he, ho, hk, hmd, _, hb⟩ => ⟨⟨_, he, effRes_of ho hk hmd⟩, hb⟩
theorem getK_some {ks : List OneK} {id : Int} (h : ∃ k ∈ ks, k.id = id) : ∃ k ∈ ks, getK ks id = some k ∧ k.id = id := by
  unfold getK
  cases hf : ks.find? (fun k => decide (k.id = id)) with
  | none =>
    obtain ⟨k, hk, e⟩ := h
    have := List.find?_eq_none.1 hf k hk
    exact absurd (decide_eq_true e) this
  | some k =>
    have e := List.find?_some hf
    exact ⟨k, List.mem_of_find?_eq_some hf, rfl, by simpa using e⟩
theorem getK_none {ks : List OneK} {id : Int} (h : ∀ k ∈ ks, k.id ≠ id) : getK ks id = none := by
  unfold getK
  exact List.find?_eq_none.2 fun k hk => by simpa using h k hk
end Go.Proofs.Ytnadhpajelkngaa

/- The contract of the statements' own awake: what the document fixes. No condition. -/
namespace Go.Proofs.Ytnadhpajelkngaa
open Go.RowKit Go.Deep

def eA1 : ActV := ⟨3, 1, 0, [98], false, none, 0, []⟩
def eA2 (A : Option Addr) : ActV := ⟨4, 1, 0, [], false, A, 1, [⟨1, 2, []⟩]⟩
theorem eA1_ok : ActH eA1 := by
  refine ⟨⟨by show Fit64 3; unfold Fit64; omega, by show Fit64 1; unfold Fit64; omega, by show Fit64 0; unfold Fit64; omega, ⟨by simp [eA1], by simp [eA1, maxLen]⟩, by simp [eA1], by simp [eA1], by simp [eA1]⟩, held_nil, by simp [eA1]⟩
theorem eA2_ok (A : Option Addr) : ActH (eA2 A) := by
  have hc : ∀ y ∈ [CompV.mk 1 2 []], y.Good := fun y hy => by
    rw [List.mem_singleton.1 hy]
    exact good_of 1 2 [] (by omega) (by omega) ⟨by simp, by simp⟩
  refine ⟨⟨by show Fit64 4; unfold Fit64; omega, by show Fit64 1; unfold Fit64; omega, by show Fit64 0; unfold Fit64; omega, ⟨by simp [eA2], by simp [eA2]⟩, hc, by simp [eA2], by simp [eA2, maxLen]⟩, ⟨hc, by simp [eA2], by simp [eA2, tlen]⟩, by simp [eA2]⟩
theorem eff_two (A : Option Addr) : eff [eA1, eA2 A] = [⟨1, [⟨1, 2, []⟩], true, false, false, true, 0, [98]⟩] := rfl
theorem acts_eff (x : World) (g : Nat) (hg : g = x.heap.size + 1) : ActsAt ((x.alloc (.cells #[.int .i64 1, .int .i64 2, .string { data := #[] }] 54)).alloc (.cells #[.int .i64 3, .int .i64 1, .int .i64 0, .string { data := #[98] }, .bool false, .slice none 0 0, .int .i64 4, .int .i64 1, .int .i64 0, .string { data := #[] }, .bool false, .slice (some ⟨x.heap.size, 0, none⟩) 1 1] 31)) (some ⟨g, 0, none⟩) [eA1, eA2 (some ⟨x.heap.size, 0, none⟩)] := by
  subst hg
  refine ⟨CellsAt.lit (fun j v h => by rw [← Array.getElem?_toList]; exact h) (by simp), fun y hy => ?_⟩
  have hy' : y = eA1 ∨ y = eA2 (some ⟨x.heap.size, 0, none⟩) := by simpa using hy
  rcases hy' with rfl | rfl
  · exact .inl rfl
  · exact CompsAt.below (w := x.alloc (.cells #[.int .i64 1, .int .i64 2, .string { data := #[] }] 54)) (CellsAt.lit (fun j v h => by rw [← Array.getElem?_toList]; exact h) rfl) ((Below.refl _ _).alloc (Nat.le_refl _) _)
set_option maxHeartbeats 2000000 in
set_option maxRecDepth 100000 in
theorem eawake_any (w : World) : Calls Try.prog 7 #[] w fun e w' => e = .returned (.bool true) ∧ Below w.heap.size w w' := by
  have hbl := ((Below.refl w.heap.size w).alloc (Nat.le_refl _) (.cells #[.int .i64 1, .int .i64 2, .string { data := #[] }] 54)).alloc (by simp) (.cells #[.int .i64 3, .int .i64 1, .int .i64 0, .string { data := #[98] }, .bool false, .slice none 0 0, .int .i64 4, .int .i64 1, .int .i64 0, .string { data := #[] }, .bool false, .slice (some ⟨w.heap.size, 0, none⟩) 1 1] 31)
  have HB := Lib.hid hbl
  have GO := Lib.hid (effOf_any (some ⟨w.heap.size + 1, 0, none⟩) 2 [eA1, eA2 (some ⟨w.heap.size, 0, none⟩)] (by simp) (by simp) (fun a ha => by
    have ha' : a = eA1 ∨ a = eA2 (some ⟨w.heap.size, 0, none⟩) := by simpa using ha
    rcases ha' with rfl | rfl
    · exact eA1_ok
    · exact eA2_ok _) _ (acts_eff w _ rfl))
  rw [eff_two] at GO
  simp only [List.length_cons, List.length_nil, Nat.zero_add, Nat.reduceAdd] at GO
  clear hbl
  go_enter Try.func7, Try.ntmps7
  go_wp2_with fail
  refine GO.out.mono ?_
  rintro e w1 ⟨⟨v, rfl, A1, c1, L, rfl, hat, hk, hgood, hcap⟩, hb⟩
  replace HB := Lib.hid (HB.out.trans (hb.mono HB.out.size))
  clear hb GO hcap
  obtain ⟨y, rfl⟩ : ∃ y, L = [y] := by
    cases L with
    | nil => cases hk
    | cons y L =>
      cases L with
      | nil => exact ⟨y, rfl⟩
      | cons z L => simp at hk
  have hyk : y.k = ⟨1, [⟨1, 2, []⟩], true, false, false, true, 0, [98]⟩ := by simpa using hk
  have GG := Lib.hid (effGet_any A1 c1 [y] 2 (by simp) (fun z hz => by
    rw [List.mem_singleton.1 hz]
    exact ⟨hgood y (by simp), by rw [hyk]; exact ⟨(eA2_ok none).2.1, by simp⟩⟩) w1 hat)
  rw [show getK ([y].map (·.k)) 2 = none from getK_none (fun k hk => by rw [List.map_singleton] at hk; rw [List.mem_singleton.1 hk, hyk]; decide)] at GG
  simp only [List.length_singleton] at GG
  have HAT := Lib.hid hat
  have HYK := Lib.hid hyk
  clear hat hk hgood hyk
  simp only [List.length_singleton]
  go_wp2_with fail
  refine GG.out.mono ?_
  rintro e w2 ⟨⟨z, b, rfl, _, _, hz⟩, hb⟩
  rcases hz with ⟨_, h, _⟩ | ⟨_, hzk, rfl⟩
  · cases h
  obtain ⟨zk, zA, zC⟩ := z
  simp only at hzk
  subst hzk
  replace HAT := Lib.hid (HAT.out.below hb)
  replace HB := Lib.hid (HB.out.trans (hb.mono HB.out.size))
  clear hb GG
  obtain ⟨bb, off, rfl, hlt⟩ := HAT.out.form (by simp)
  have HALL := Lib.hid (fun (o : Obj) => (HAT.out.below ((Below.refl w2.heap.size w2).alloc (Nat.le_refl _) o)).at_ (i := 0) (by simp))
  obtain ⟨yk, yA, yC⟩ := y
  have e := HYK.out
  simp only at e
  subst e
  unfold oneCells oneZ
  simp only
  obtain ⟨x0, x1, x2, x3, x4, x5, x6, x7⟩ := HALL.out (.cells #[.int .i64 0, .slice zA 0 zC, .bool false, .bool false, .bool false, .bool false, .int .i64 0, .string (bstr [])] 37)
  simp only [List.getElem_cons_zero, Nat.zero_mul, Nat.add_zero] at x0 x1 x2 x3 x4 x5 x6 x7
  replace x7 : (w2.alloc (.cells #[.int .i64 0, .slice zA 0 zC, .bool false, .bool false, .bool false, .bool false, .int .i64 0, .string (bstr [])] 37)).cell? ⟨bb, off + 7, none⟩ = some (.string { data := #[98] }) := x7
  have h98 : (({ data := #[98] } : ByteArray).toList == ({ data := #[98] } : ByteArray).toList) = true := by simp
  have HB2 := Lib.hid (HB.out.alloc HB.out.size (.cells #[.int .i64 0, .slice zA 0 zC, .bool false, .bool false, .bool false, .bool false, .int .i64 0, .string (bstr [])] 37))
  go_wp2
  go_ret
  exact ⟨rfl, HB2.out⟩
end Go.Proofs.Ytnadhpajelkngaa
