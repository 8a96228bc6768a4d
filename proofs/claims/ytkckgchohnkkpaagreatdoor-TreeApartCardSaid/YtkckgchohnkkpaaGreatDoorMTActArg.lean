/- An act by value as an argument. No condition. -/
import Derived.Test.YtkckgchohnkkpaaGreatDoorMCells
/- An act by value as an argument. No condition. -/
namespace Go.Proofs.YtkckgchohnkkpaaGreatDoor
open Go.ChangeShapes Go.WideShapes Go.ChangeAt Go.RowKit
variable {H : Type} {enc : TypeId × Value → H} {w : World}

set_option maxRecDepth 100000 in
theorem open_act {base : Nat} {v : Value} {d : DataW H} {p : List MemPlace} (hv : Value.okWide Tryz.prog w .any base 38 v) (h : DataW.Trod enc Tryz.prog w 0 (fun _ => true) true 38 v d p) (hlt : ∀ x ∈ p, x.block < w.heap.size) :
    ∃ a : ActV, v = .agg (actCells a).toArray ∧ a.Good ∧ CompsAt w a.opsA a.ops := by
  obtain ⟨cs, rfl, hsz⟩ := okWide_struct Tryz.underlying38 hv
  have hsz' : cs.size = 6 := hsz.trans (by kernel_rfl)
  obtain ⟨R⟩ := cs
  obtain ⟨fuel, hf⟩ := h
  obtain ⟨xs, n, _, hx, hl, hlen, hg⟩ := DataW.trod_struct Tryz.underlying38 hf
  match R, hsz' with
  | [r0, r1, r2, r3, r4, r5], _ =>
  match xs, hlen with
  | [y0, y1, y2, y3, y4, y5], _ =>
  have h0 := hg 0 _ rfl
  have h1 := hg 1 _ rfl
  have h2 := hg 2 _ rfl
  have h3 := hg 3 _ rfl
  have h4 := hg 4 _ rfl
  have h5 := hg 5 _ rfl
  simp only [Value.cells, List.getElem?_cons_zero, List.getElem?_cons_succ] at h0 h1 h2 h3 h4 h5
  obtain ⟨k0, e0, w0⟩ := rec_int (R := [r0, r1, r2, r3, r4, r5]) (o := 0) h0
  obtain ⟨k1, e1, w1⟩ := rec_int (R := [r0, r1, r2, r3, r4, r5]) (o := 1) h1
  obtain ⟨k2, e2, w2⟩ := rec_int (R := [r0, r1, r2, r3, r4, r5]) (o := 2) h2
  obtain ⟨l3, e3, w3⟩ := rec_text (R := [r0, r1, r2, r3, r4, r5]) (o := 3) h3
  obtain ⟨b4, e4⟩ := rec_bool (R := [r0, r1, r2, r3, r4, r5]) (o := 4) h4
  obtain ⟨A5, l5, c5, e5, at5, g5, n5, m5⟩ := rec_comps (R := [r0, r1, r2, r3, r4, r5]) (o := 5) h5 (fun q hq => hlt q (by
    injection hx with _ hx
    rw [hx]
    simp only [List.flatMap_cons, List.mem_append]
    simp [hq]))
  simp only [List.getElem?_cons_zero, List.getElem?_cons_succ, Option.some.injEq] at e0 e1 e2 e3 e4 e5
  subst e0 e1 e2 e3 e4 e5
  exact ⟨⟨k0, k1, k2, l3, b4, A5, c5, l5⟩, rfl, ⟨w0, w1, w2, w3, g5, n5, m5⟩, at5⟩
end Go.Proofs.YtkckgchohnkkpaaGreatDoor
