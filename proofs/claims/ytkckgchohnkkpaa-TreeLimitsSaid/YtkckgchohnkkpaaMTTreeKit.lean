/- The landed tree's Do told by functions, for laws; acts that are spelled out. Condition: acts that may be. -/
import Derived.Test.YtkckgchohnkkpaaMTTreeDoAny
import Derived.Test.YtkckgchohnkkpaaMRk
/- The landed tree's Do told by functions, for laws; acts that are spelled out. Condition: acts that may be. -/
namespace Go.Proofs.Ytkckgchohnkkpaa
open Go.RowKit Go.Deep
variable {l : List NodeV}

theorem tDo {g : Nat} {m : List NodeV} {u : Int} {a : ActV} (hd : rDo l a = (m, u)) (hm : TreeM l) (ha : ActOk a) (w : World) (h : TreeAt w g l) (hop : CompsAt w a.opsA a.ops) :
    Calls Try.prog 6 #[.pointer (some ⟨g, 0, none⟩), .agg #[.int .i64 a.kind, .int .i64 a.id, .int .i64 a.parent, .string (bstr a.name), .bool a.dir, .slice a.opsA a.ops.length a.opsC]] w fun e w' => e = .returned (.int .i64 u) ∧ TreeAt w' g m ∧ Only g w w' := by
  refine (do_any g l a hm ha w h hop).mono ?_
  rintro e w' hr
  have := hr.out
  rw [hd] at this
  exact this
theorem rAt_end {id : Int} (h : ∀ y ∈ l, y.id < id) : rAt l id = l.length := by
  unfold rAt
  induction l with
  | nil => rfl
  | cons y l ih =>
    rw [List.takeWhile_cons, if_pos (decide_eq_true (h y (by simp))), List.length_cons, ih fun x hx => h x (by simp [hx]), List.length_cons]
/-- What is created behind all others. -/
theorem do_last {a : ActV} (hk : a.kind = 1) (h : IdOk a.id ∧ IsName a.name) (hi : ∀ y ∈ l, y.id < a.id) (hp : rPlace l a.parent a.name 0 = 0) (hn : l.length < 100) : rDo l a = (l ++ [newNode a], 0) := by
  rw [rDo_c5 hk h (rFind_no fun y hy => by have := hi y hy; omega) hp (by omega), rAt_end hi, List.take_length, List.drop_length]
theorem do_full {a : ActV} (hk : a.kind = 1) (h : IdOk a.id ∧ IsName a.name) (hi : ∀ y ∈ l, y.id < a.id) (hp : rPlace l a.parent a.name 0 = 0) (hn : 100 ≤ l.length) : rDo l a = (l, 4) :=
  rDo_c4 hk h (rFind_no fun y hy => by have := hi y hy; omega) hp hn
theorem place_free {n : List Nat} (h : ∀ y ∈ l, ¬ (y.parent = 0 ∧ y.name = n)) : rPlace l 0 n 0 = 0 :=
  rPlace_ok (rUp_root l 0) (.inl (by rw [rChild_none h]; omega))
theorem actOk_plain {k id p : Int} {nm : List Nat} {d : Bool} (h1 : Fit64 k) (h2 : Fit64 id) (h3 : Fit64 p) (h4 : ∀ x ∈ nm, x < 256) (h5 : nm.length ≤ 20) : ActOk ⟨k, id, p, nm, d, none, 0, []⟩ :=
  ⟨⟨h1, h2, h3, ⟨h4, by show nm.length ≤ _; unfold maxLen; omega⟩, by simp, by simp, by unfold maxLen; show 0 ≤ _; omega⟩, by show nm.length ≤ _; omega, fun y hy => (List.not_mem_nil hy).elim, by simp [tlen]⟩
theorem actOk_one {k id p : Int} {d : Bool} {A : Option Addr} {c : CompV} (h1 : Fit64 k) (h2 : Fit64 id) (h3 : Fit64 p) (h4 : c.Good) (h5 : c.text.length ≤ 4000) : ActOk ⟨k, id, p, [], d, A, 1, [c]⟩ :=
  ⟨⟨h1, h2, h3, ⟨by simp, by simp⟩, fun y hy => by rw [List.mem_singleton.1 hy]; exact h4, by simp, by unfold maxLen; show 1 ≤ _; omega⟩, by simp, fun y hy => by rw [List.mem_singleton.1 hy]; exact ⟨h4, by omega⟩, by simp [tlen]; omega⟩
theorem comps_none (w : World) : CompsAt w none [] := .inl rfl
theorem TreeM.nil : TreeM [] := TreeM.of ⟨by simp, fun k hk => by simp at hk⟩
end Go.Proofs.Ytkckgchohnkkpaa
