/- Slices of texts: what they read as, in this world and in later ones; how such an argument is opened; the contract of alike.Words. Condition: no slice is longer than memory. -/
import Derived.Test.YtgenphpaidanhaaBstr
import Derived.Test.YtgenphpaidanhaaWeights
import Derived.Deep.Strs
namespace Go.Proofs.Ytgenphpaidanhaa
open Go.ChangeShapes Go.WideShapes Go.ChangeAt Go.RowKit Go.Deep

/-- The slice of texts with address A: their bytes. -/
def StrsAt (w : World) (A : Option Addr) (L : List (List Nat)) : Prop :=
  L = [] ∨ ∃ b off, A = some ⟨b, off, none⟩ ∧ b < w.heap.size ∧ ∀ (j : Nat) (x : List Nat), L[j]? = some x → w.cell? ⟨b, off + j, none⟩ = some (.string (bstr x))
theorem StrsAt.below {w w' : World} {A : Option Addr} {L : List (List Nat)} (h : StrsAt w A L) (hb : Below w.heap.size w w') : StrsAt w' A L := by
  rcases h with h | ⟨b, off, hA, hlt, hc⟩
  · exact .inl h
  · exact .inr ⟨b, off, hA, Nat.lt_of_lt_of_le hlt hb.size, fun j x hj => (hb.cell (p := ⟨b, off + j, none⟩) hlt).trans (hc j x hj)⟩
theorem StrsAt.cell {w : World} {b off : Nat} {L : List (List Nat)} (h : StrsAt w (some ⟨b, off, none⟩) L) {j : Nat} (hj : j < L.length) : w.cell? ⟨b, off + j, none⟩ = some (.string (bstr L[j])) := by
  rcases h with rfl | ⟨b', off', e, _, hc⟩
  · simp at hj
  · injection e with e
    injection e with e1 e2 e3
    subst e1 e2
    exact hc j _ (List.getElem?_eq_getElem hj)
theorem StrsAt.form {w : World} {A : Option Addr} {L : List (List Nat)} (h : StrsAt w A L) (h0 : 0 < L.length) : ∃ b off, A = some ⟨b, off, none⟩ ∧ b < w.heap.size := by
  rcases h with rfl | ⟨b, off, e, hlt, _⟩
  · simp at h0
  · exact ⟨b, off, e, hlt⟩
/-- What each of them is: bytes, no more than memory holds. -/
def FineS (L : List (List Nat)) : Prop := ∀ x ∈ L, x.length ≤ maxLen ∧ ∀ c ∈ x, c < 256

set_option maxRecDepth 100000 in
/-- An argument of type []string: what it reads as. -/
theorem open_texts {H : Type} {enc : TypeId × Value → H} {w : World} {base : Nat} {v : Value} {d : DataW H} {p : List MemPlace} (hv : Value.okWide Try.prog w .any base 44 v)
    (h : DataW.Trod enc Try.prog w 0 (fun _ => true) true 44 v d p) (hlt : ∀ x ∈ p, x.block < w.heap.size) :
    ∃ A L c, v = .slice A (List.length L) c ∧ StrsAt w A L ∧ FineS L ∧ L.length ≤ maxLen := by
  obtain ⟨a0, len, cap, rfl⟩ := okWide_slice Try.underlying44 hv
  obtain ⟨fuel, hf⟩ := h
  rcases open_strs Try.underlying44 Try.underlying9 (by kernel_rfl) hf with ⟨hcs, hx⟩ | ⟨a, len', cap', m, Sx, hcs, _, hl, hm, hmm, hx, hcell⟩
  · simp [Value.cells] at hcs
    obtain ⟨rfl, rfl, rfl⟩ := hcs
    exact ⟨none, [], 0, rfl, .inl rfl, fun _ h => (by cases h), by simp [maxLen]⟩
  · simp [Value.cells] at hcs
    obtain ⟨rfl, rfl, rfl⟩ := hcs
    simp only [if_true] at hmm
    subst hmm
    simp only [Prod.mk.injEq] at hx
    obtain ⟨rfl, rfl⟩ := hx
    have each : ∀ i, ∃ l : List Nat, (∀ x ∈ l, x < 256) ∧ Sx i = bstr l := fun i => bstr_any (Sx i)
    have hlen : ((List.range len).map fun i => (each i).choose).length = len := by simp
    refine ⟨some a, (List.range len).map (fun i => (each i).choose), m, by rw [hlen], ?_, ?_, by rw [hlen]; omega⟩
    · by_cases h0 : len = 0
      · exact .inl (by simp [h0])
      · have hc0 := (hcell 0 (by omega)).1
        obtain ⟨b, off, spot⟩ := a
        have hspot : spot = none := by simpa [Addr.add] using World.cell?_spot hc0
        subst hspot
        refine .inr ⟨b, off, rfl, hlt (.cell b (off + 0)) (MemPlace.mem_row.2 ⟨0, by omega, rfl⟩), fun j x hj => ?_⟩
        rw [List.getElem?_map] at hj
        have hjl : j < len := by
          rcases Nat.lt_or_ge j len with g | g
          · exact g
          · rw [List.getElem?_eq_none (by simpa using g)] at hj
            cases hj
        rw [List.getElem?_range hjl] at hj
        have hjx : (each j).choose = x := Option.some.inj hj
        rw [← add_plain, (hcell j (by omega)).1, (each j).choose_spec.2, hjx]
    · intro x hx
      obtain ⟨i, hi, rfl⟩ := List.mem_map.1 hx
      have hil := List.mem_range.1 hi
      refine ⟨?_, (each i).choose_spec.1⟩
      have := (hcell i (by omega)).2
      rw [(each i).choose_spec.2, bstr_size] at this
      exact this

/-- alike.Words. -/
def words (limit : Nat) (L : List (List Nat)) : Nat := wts limit 0 (L.map fun x => [x.length, 1])
theorem words_spec {limit : Nat} (hl : limit < 1099511627776) {L : List (List Nat)} (h : words limit L ≤ limit) : ∀ x ∈ L, x.length ≤ limit := by
  unfold words at h
  have h1 := wts_spec limit hl _ _ h
  rw [h1, List.map_map, Nat.zero_add] at h
  clear h1
  intro x hx
  induction L with
  | nil => cases hx
  | cons y L ih =>
    rw [List.map_cons, List.sum_cons] at h
    have e : (List.sum ∘ fun (x : List Nat) => [x.length, 1]) y = y.length + 1 := by simp
    rw [e] at h
    rcases List.mem_cons.1 hx with rfl | hx
    · omega
    · exact ih (by omega) hx
set_option maxRecDepth 100000 in
theorem alikeWords_row (limit : Nat) (b off cap : Nat) (L : List (List Nat)) (hl : L.length ≤ maxLen) (hf : FineS L) (w : World) (hc : StrsAt w (some ⟨b, off, none⟩) L) :
    Calls Try.prog 19 #[.slice (some ⟨b, off, none⟩) L.length cap, .int .i64 (limit : Int)] w fun e w' => e = .returned (.int .i64 ((words limit L : Nat) : Int)) ∧ Below w.heap.size w w' := by
  unfold maxLen at hl
  have HC := Lib.hid hc; clear hc
  have HF := Lib.hid hf; clear hf
  obtain ⟨M, HM⟩ : ∃ M, Hid ((L.map fun x => [x.length, 1]) = M) := ⟨_, Lib.hid rfl⟩
  have HWD : Hid (words limit L = wts limit 0 M) := by show _ = _; rw [← HM.out]; rfl
  have HML : Hid (M.length = L.length) := by show _ = _; rw [← HM.out, List.length_map]
  rw [HWD.out]
  go_enter Try.func19, Try.ntmps19
  go_wp2
  go_loopw [5, 6] (fun t i wr => ∃ k m : Nat, k ≤ L.length ∧ i = .int .i64 k ∧ t = .int .i64 (m : Int) ∧ m ≤ 1099511627776 ∧ wts limit m (M.drop k) = wts limit 0 M ∧ Below w.heap.size w wr) (fun _ i _ => L.length - (intOf i).toNat)
  case atStart => exact ⟨0, 0, Nat.zero_le _, rfl, rfl, by omega, rfl, Below.refl _ _⟩
  case round =>
    obtain ⟨k, m, hk, rfl, rfl, hm, he, hbel⟩ := hrel
    have HE := Lib.hid he; clear he
    have HB := Lib.hid hbel; clear hbel
    by_cases hlt : k < L.length
    · have HW := Lib.hid (HE.out ▸ wts_drop limit m M k (by rw [HML.out]; exact hlt) : wts limit 0 M = _)
      have hMk : M[k]'(by rw [HML.out]; exact hlt) = [L[k].length, 1] := by
        have h1 := HM.out
        subst h1
        simp
      rw [hMk] at HW
      clear hMk
      by_cases hml : m ≤ limit
      · have hcell := (HC.out.below HB.out).cell hlt
        have hxl := (HF.out _ (List.getElem_mem hlt)).1
        have hsz := bstr_size L[k]
        unfold maxLen at hxl
        generalize L[k] = lk at hcell hxl HW hsz
        have HR : Hid (wts limit (capSum m [lk.length, 1]) (M.drop (k + 1)) = wts limit 0 M) := by show _ = _; rw [HW.out, if_pos hml]
        obtain ⟨r, HRR⟩ : ∃ r, Hid (capSum m [lk.length, 1] = r) := ⟨_, rfl⟩
        have hr : r ≤ 1099511627776 := by rw [← HRR.out]; exact capSum_held _ _ hm
        rw [HRR.out] at HR
        have HS := Lib.hid (alikeSum_row m (by omega) wr.heap.size 0 2 [lk.length, 1] (by simp [maxLen]) (by simp; omega) _ (ints_two wr 3 lk.length 1))
        rw [HRR.out] at HS
        clear HW HRR
        go_wp2_with (go_at_call 26; refine HS.out.mono ?_; rintro e w' ⟨rfl, rfl⟩)
        go_roundw
        case rel => exact ⟨k + 1, r, by omega, by go_num, rfl, hr, HR.out, HB.out.alloc HB.out.size _⟩
        case measure => simp [intOf]; omega
      · have HR : Hid (m = wts limit 0 M) := by show _ = _; rw [HW.out, if_neg hml]
        have hml' : limit < m := by omega
        go_wp2
        go_ret
        exact ⟨by rw [← HR.out]; rfl, HB.out⟩
    · have HR : Hid (m = wts limit 0 M) := by
        show m = _
        rw [← HE.out, List.drop_eq_nil_of_le (by rw [HML.out]; omega), wts_nil]
      go_wp2
      go_ret
      exact ⟨by rw [← HR.out]; rfl, HB.out⟩
end Go.Proofs.Ytgenphpaidanhaa
