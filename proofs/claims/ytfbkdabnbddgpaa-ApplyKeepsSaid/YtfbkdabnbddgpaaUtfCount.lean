/- The contract of utf.Count, over any bytes, texts or not. Condition: no more than 2^40 bytes. -/
import Derived.Test.YtfbkdabnbddgpaaUtfShow
import Derived.Deep.OwnRows
namespace Go.Proofs.Ytfbkdabnbddgpaa
open Go.RowKit Go.Deep

/-- The block g of one cell, the call's own, counts. -/
def CountInv (W : World) (g : Nat) (vs : List Nat) (w : World) : Prop := w.rowIs g 3 1 (fun _ => .int .i64 ((vs.length : Nat) : Int)) ∧ Below g W w
theorem CountInv.start (W : World) : CountInv W W.heap.size [] (W.alloc (.cells #[.int .i64 0] 3)) :=
  ⟨World.rowIs_alloc W #[.int .i64 0] 3 (fun _ => .int .i64 (([] : List Nat).length : Int)) (fun i hi => by simp at hi; subst hi; rfl), (Below.refl _ _).alloc (Nat.le_refl _) _⟩
theorem show_count (W : World) (g : Nat) (vs : List Nat) (v : Nat) (b : Int) (w : World) (h : CountInv W g vs w) (hl : vs.length ≤ 1099511627776) :
    Calls Try.prog 56 (#[.int .i64 ((v : Nat) : Int), .int .i64 b] ++ #[.pointer (some ⟨g, 0, none⟩)]) w fun e w' => e = .returned (.tuple #[]) ∧ CountInv W g (vs ++ [v]) w' := by
  have hc := h.1.cell (i := 0) (by omega)
  have hf := h.1.frozen 0
  have H := Lib.hid h; clear h
  obtain ⟨n, HN⟩ : ∃ n, Hid (n = vs.length) := ⟨_, rfl⟩
  rw [← HN.out] at hc hl
  go_enter Try.func56, Try.ntmps56
  go_wp2
  go_end0
  refine ⟨rfl, (H.out.1.set 0 _).congr fun i hi => ?_, H.out.2.setCell (Nat.le_refl _) _⟩
  rw [if_pos (by omega), List.length_append, ← HN.out]
  simp
theorem utfCount_walk (l : List Nat) (hb : ∀ x ∈ l, x < 256) (hl : l.length ≤ 1099511627776) (w : World) :
    Calls Try.prog 55 #[.string (bstr l), .func (.func 56) #[] #[.pointer (some ⟨w.heap.size, 0, none⟩)]] (w.alloc (.cells #[.int .i64 0] 3)) fun e w' =>
      (∃ vs, V l vs ∧ e = .returned (.bool true) ∧ CountInv w w.heap.size vs w') ∨ ((¬ ∃ vs, V l vs) ∧ e = .returned (.bool false) ∧ ∃ vs, CountInv w w.heap.size vs w') :=
  utfWalk_any 56 (enters_of_func Try.func56 (by kernel_rfl) rfl) _ l hl hb (CountInv w w.heap.size)
    (fun vs v w1 h hm he => show_count w _ vs v _ w1 h (by have := E_length_le (vs ++ [v]); simp at this; omega)) _ (CountInv.start w)
theorem utfCount_yes {l vs : List Nat} (h : V l vs) (hl : l.length ≤ 1099511627776) (w : World) :
    Calls Try.prog 34 #[.string (bstr l)] w fun e w' => e = .returned (.tuple #[.int .i64 ((vs.length : Nat) : Int), .int .i64 0]) ∧ Below w.heap.size w w' := by
  have HW := Lib.hid (utfCount_walk l (by rw [← h.bytes]; exact E_lt h.may) hl w)
  have hmf : ∀ (fn : Fn) (first cap : Array Value) (w : World), (Instr.makeFunc fn first cap).run Try.prog w = .ok (.func fn first cap) w := fun _ _ _ _ => rfl
  have H := Lib.hid h; clear h
  go_enter Try.func34, Try.ntmps34
  go_wp2_with fail
  refine HW.out.mono ?_
  rintro e w' (⟨ws, hv, rfl, hc, hbel⟩ | ⟨hn, _, _⟩)
  · obtain rfl := hv.uniq H.out
    have hcell := hc.cell (i := 0) (by omega)
    clear hc hv
    go_wp2
    go_ret2
    exact ⟨rfl, hbel⟩
  · exact absurd ⟨vs, H.out⟩ hn
theorem utfCount_no {l : List Nat} (h : ¬ ∃ vs, V l vs) (hb : ∀ x ∈ l, x < 256) (hl : l.length ≤ 1099511627776) (w : World) :
    Calls Try.prog 34 #[.string (bstr l)] w fun e w' => e = .returned (.tuple #[.int .i64 0, .int .i64 2]) ∧ Below w.heap.size w w' := by
  have HW := Lib.hid (utfCount_walk l hb hl w)
  have hmf : ∀ (fn : Fn) (first cap : Array Value) (w : World), (Instr.makeFunc fn first cap).run Try.prog w = .ok (.func fn first cap) w := fun _ _ _ _ => rfl
  have H := Lib.hid h; clear h
  go_enter Try.func34, Try.ntmps34
  go_wp2_with fail
  refine HW.out.mono ?_
  rintro e w' (⟨ws, hv, _⟩ | ⟨hn, rfl, ws, hc, hbel⟩)
  · exact absurd ⟨ws, hv⟩ H.out
  · clear hc hn
    go_wp2
    go_ret2
    exact ⟨rfl, hbel⟩
end Go.Proofs.Ytfbkdabnbddgpaa
