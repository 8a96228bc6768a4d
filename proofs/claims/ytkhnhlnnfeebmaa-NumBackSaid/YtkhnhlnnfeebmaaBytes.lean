/- Slices of bytes that come in or go from call to call, nil among them: what they read as, in this world and in later ones; and how such an argument is opened. No condition beyond those that each lemma states. -/
import Derived.Test.YtkhnhlnnfeebmaaRefPut
import Derived.Test.YtkhnhlnnfeebmaaRefGet
import Derived.Test.YtkhnhlnnfeebmaaLaw
import Derived.Laws.BytesArg
import Derived.Laws.IdiomStrings
namespace Go.Proofs.Ytkhnhlnnfeebmaa
open Go.ChangeShapes Go.WideShapes Go.ChangeAt Go.RowKit Go.Deep

/-- The slice value with address A reads as these bytes, and lies below the heap's end. -/
def BytesAt (w : World) (A : Option Addr) (l : List Nat) : Prop :=
  l = [] ∨ ∃ b off, A = some ⟨b, off, none⟩ ∧ b < w.heap.size ∧ ∀ j c : Nat, l[j]? = some c → w.cell? ⟨b, off + j, none⟩ = some (.int .u8 (c : Int))
theorem BytesAt.below {w w' : World} {A : Option Addr} {l : List Nat} (h : BytesAt w A l) (hb : Below w.heap.size w w') : BytesAt w' A l := by
  rcases h with h | ⟨b, off, hA, hlt, hc⟩
  · exact .inl h
  · exact .inr ⟨b, off, hA, Nat.lt_of_lt_of_le hlt hb.size, fun j c hj => (hb.cell (p := ⟨b, off + j, none⟩) hlt).trans (hc j c hj)⟩
theorem BytesAt.drew {w : World} {A : Option Addr} {l : List Nat} (h : BytesAt w A l) : BytesAt w.drew A l := h
theorem NewBytes.below {l : List Nat} {w w' : World} {v : Value} (h : NewBytes l w v w') : Below w.heap.size w w' := by
  obtain ⟨_, _, _, _, _, _, _, hb⟩ := h
  exact hb
theorem NewBytes.at_ {l : List Nat} {w w' : World} {v : Value} (h : NewBytes l w v w') : ∃ A c, v = .slice A l.length c ∧ BytesAt w' A l := by
  obtain ⟨g, c, hv, _, _, hlt, hc, _⟩ := h
  exact ⟨_, c, hv, .inr ⟨g, 0, rfl, hlt, hc⟩⟩

/-- The text of these bytes. -/
def bstr (l : List Nat) : ByteArray := strOfNums (l.map fun x : Nat => (x : Int))
theorem bstr_size (l : List Nat) : (bstr l).size = l.length := by simp [bstr, strOfNums_size]
theorem bstr_inj (a b : List Nat) (ha : ∀ x ∈ a, x < 256) (hb : ∀ x ∈ b, x < 256) (h : bstr a = bstr b) : a = b := by
  have h1 := congrArg (fun s : ByteArray => s.data.toList.map UInt8.toNat) h
  have key : ∀ l : List Nat, (∀ x ∈ l, x < 256) → (bstr l).data.toList.map UInt8.toNat = l := by
    intro l hl
    rw [bstr, strOfNums_data, List.map_map, List.map_map]
    conv => rhs; rw [← List.map_id l]
    refine List.map_congr_left fun x hx => ?_
    have := hl x hx
    simp
    omega
  simp only [key a ha, key b hb] at h1
  exact h1
theorem bstr_neq {a b : ByteArray} (h : a ≠ b) : (a.toList == b.toList) = false := by
  refine beq_eq_false_iff_ne.2 fun e => h ?_
  rw [ByteArray.toList_eq, ByteArray.toList_eq] at e
  have e' := Array.toList_inj.1 e
  cases a
  cases b
  simp only at e'
  rw [e']
theorem BytesAt.conv {w : World} {A : Option Addr} {l : List Nat} (h : BytesAt w A l) (c : Nat) :
    ∀ dst, Try.prog.underlying dst = some .string → (convert 22 dst (.slice A l.length c)).run Try.prog w = .ok (.string (bstr l)) w := by
  rcases h with rfl | ⟨b, off, rfl, _, hc⟩
  · cases A with
    | none => exact run_convert_bytes_nil w 22 5 Try.underlying22 Try.underlying5 _ _
    | some a => exact fun dst hd => run_convert_bytes_back w 22 dst 5 a c [] Try.underlying22 Try.underlying5 hd (fun j hj => by simp at hj)
  · refine run_convert_bytes_arg w 22 5 Try.underlying22 Try.underlying5 b off l.length c (l.map fun x : Nat => (x : Int)) (by simp) (fun i hi => ?_)
    rw [hc i l[i] (List.getElem?_eq_getElem hi)]
    simp [List.getD, hi]

theorem numGet_nil (A : Option Addr) (c : Nat) (w : World) : Calls Try.prog 7 #[.slice A 0 c] w fun e w' => e = .returned (.tuple #[.int .i64 0, .int .i64 0, .int .i64 2]) ∧ w = w' := by
  go_enter Try.func7, Try.ntmps7
  go_wp2
  refine wp_scope_fwd ?_
  go_wp2
  refine wp_loop_rounds 1 ?_
  rw [rounds_succ]
  go_wp2
  go_step3
  go_wp2
  rw [fwd_ret]
  go_ret3
  exact ⟨rfl, rfl⟩
theorem refGet_nil (A : Option Addr) (c : Nat) (w : World) : Calls Try.prog 8 #[.slice A 0 c] w fun e w' => e = .returned (.tuple #[.int .i64 0, .int .i64 0]) ∧ w = w' := by
  go_enter Try.func8, Try.ntmps8
  go_wp2
  refine wp_loop_rounds 1 ?_
  rw [rounds_succ]
  go_wp2
  go_ret2
  exact ⟨rfl, rfl⟩
theorem numGet_at {A : Option Addr} {l : List Nat} (cap : Nat) (hl : l.length ≤ maxLen) (hb : ∀ c ∈ l, c < 256) (w : World) (h : BytesAt w A l) :
    Calls Try.prog 7 #[.slice A l.length cap] w fun e w' => e = .returned (.tuple #[.int .i64 (ng 0 0 l).1, .int .i64 (ng 0 0 l).2.1, .int .i64 (ng 0 0 l).2.2]) ∧ w = w' := by
  rcases h with rfl | ⟨b, off, rfl, _, hc⟩
  · exact numGet_nil A cap w
  · exact numGet_any b off cap l hl hb w hc
theorem refGet_at {A : Option Addr} {l : List Nat} (cap : Nat) (hl : l.length ≤ maxLen) (hb : ∀ c ∈ l, c < 256) (w : World) (h : BytesAt w A l) :
    Calls Try.prog 8 #[.slice A l.length cap] w fun e w' => e = .returned (.tuple #[.int .i64 (rg 0 0 l).1, .int .i64 (rg 0 0 l).2]) ∧ w = w' := by
  rcases h with rfl | ⟨b, off, rfl, _, hc⟩
  · exact refGet_nil A cap w
  · exact refGet_any b off cap l hl hb w hc

/-- An argument of type []uint8: what it reads as. -/
theorem open_bytes {H : Type} {enc : TypeId × Value → H} {w : World} {base : Nat} {v : Value} {d : DataW H} {p : List MemPlace} (hv : Value.okWide Try.prog w .any base 22 v)
    (h : DataW.Trod enc Try.prog w 0 (fun _ => true) true 22 v d p) (hlt : ∀ x ∈ p, x.block < w.heap.size) :
    ∃ A l c, v = .slice A (List.length l) c ∧ BytesAt w A l ∧ (∀ x ∈ l, x < 256) ∧ l.length ≤ maxLen := by
  obtain ⟨a0, len, cap, rfl⟩ := okWide_slice Try.underlying22 hv
  obtain ⟨fuel, hf⟩ := h
  rcases open_ints Try.underlying22 Try.underlying5 (by kernel_rfl) hf with ⟨hcs, hx⟩ | ⟨a, len', cap', zs, hcs, _, hl, hm, hz, hx, hcell, hwz⟩
  · simp [Value.cells] at hcs
    obtain ⟨rfl, rfl, rfl⟩ := hcs
    exact ⟨none, [], 0, rfl, .inl rfl, by simp, by simp [maxLen]⟩
  · simp [Value.cells] at hcs
    obtain ⟨rfl, rfl, rfl⟩ := hcs
    simp only [Prod.mk.injEq] at hx
    obtain ⟨rfl, rfl⟩ := hx
    simp only [if_true] at hz
    have hw : ∀ z ∈ zs, 0 ≤ z ∧ z ≤ 255 := fun z hzz => by simpa [Lit.wf, IntKind.min, IntKind.max, IntKind.signed, IntKind.bits] using hwz z hzz
    have hlen : ((zs.take len).map Int.toNat).length = len := by simp; omega
    refine ⟨some a, (zs.take len).map Int.toNat, cap, by rw [hlen], ?_, ?_, by rw [hlen]; omega⟩
    · by_cases h0 : len = 0
      · subst h0
        exact .inl (by simp)
      · have hzp : 0 < zs.length := by omega
        obtain ⟨b, off, rfl, hc⟩ := ints_at hcell hzp
        refine .inr ⟨b, off, rfl, hlt (.cell b (off + 0)) (MemPlace.mem_row.2 ⟨0, hzp, rfl⟩), fun j c hj => ?_⟩
        rw [List.getElem?_map, Option.map_eq_some_iff] at hj
        obtain ⟨z, hz1, rfl⟩ := hj
        rw [List.getElem?_take] at hz1
        split at hz1
        · have hjl : j < zs.length := (List.getElem?_eq_some_iff.1 hz1).1
          have h0 := (hw z (List.mem_of_getElem? hz1)).1
          rw [hc j hjl, List.getD_eq_getElem?_getD, hz1, Option.getD_some, Int.toNat_of_nonneg h0]
        · cases hz1
    · intro x hx
      obtain ⟨z, hz1, rfl⟩ := List.mem_map.1 hx
      have := hw z (List.mem_of_mem_take hz1)
      omega
end Go.Proofs.Ytkhnhlnnfeebmaa
