/- append of any bytes, nil among them, onto bytes that the call itself has made. Condition: no more than 2^46 bytes together. -/
import Derived.Test.YtkhnhlnnfeebmaaBytes
import Derived.Maps.AppendAt
namespace Go.Proofs.Ytkhnhlnnfeebmaa
open Go.ChangeShapes Go.WideShapes Go.ChangeAt Go.RowKit Go.Deep

theorem u8s_append (a b : List Nat) : u8s (a ++ b) = u8s a ++ u8s b := by simp [u8s]
theorem BytesAt.cells {w : World} {a : Addr} {l : List Nat} (h : BytesAt w (some a) l) : ∀ (j : Nat) (u : Value), (u8s l)[j]? = some u → w.cell? (a.add j) = some u := by
  intro j u hu
  rcases h with rfl | ⟨b, off, e, _, hc⟩
  · simp [u8s] at hu
  · injection e with e
    subst e
    rw [u8s, List.getElem?_map, Option.map_eq_some_iff] at hu
    obtain ⟨x, hx, rfl⟩ := hu
    rw [Go.WideShapes.add_plain]
    exact hc j x hx
theorem BytesAt.take {w : World} {A : Option Addr} {l : List Nat} (h : BytesAt w A l) (k : Nat) : BytesAt w A (l.take k) := by
  rcases h with rfl | ⟨b, off, e, hlt, hc⟩
  · exact .inl (by simp)
  · refine .inr ⟨b, off, e, hlt, fun j c hj => hc j c ?_⟩
    rw [List.getElem?_take] at hj
    split at hj
    · exact hj
    · cases hj
/-- Bytes that lie in a row of the call's own. -/
theorem BytesAt.of_own {w : World} {base : Nat} {A : Option Addr} {l : List Nat} {c n : Nat} (h : w.ownsRow base 5 1 (.slice A n c) n (u8s l)) (hn : n = l.length) : BytesAt w A l := by
  subst hn
  by_cases h0 : l.length = 0
  · exact .inl (List.eq_nil_of_length_eq_zero h0)
  · obtain ⟨g, cap, hv, _, hlt⟩ := h.form (by omega)
    injection hv with h1 h2 h3
    subst h1
    subst h3
    refine .inr ⟨g, 0, rfl, hlt, fun j x hx => ?_⟩
    have hj : j < l.length := (List.getElem?_eq_some_iff.1 hx).1
    rw [Nat.zero_add, h.cellAt j (by omega), u8s, List.getElem?_map, hx]
    rfl

section
variable {P : Program} (w : World)
theorem run_append_nil (base : Nat) (t ty e : TypeId) (i : TypeInfo) (size : Nat) (ht : P.underlying t = some (.slice e)) (hi : P.info? e = some i) (v : Value) (n : Nat) (xs : List Value) (hown : w.ownsRow base e size v n xs) (c : Nat) :
    (Builtin.append_ #[t, t] ty #[v, .slice none 0 c]).run P w = .ok v w := by
  rcases hown.2 with ⟨rfl, rfl⟩ | ⟨g, cap, cur, rfl, _, _, hnc, _⟩
  · simp [Builtin.append_, run_underlying ht, sizeOf, typeInfo, hi, Builtin.lenOf, Builtin.firstCells]
  · simp [Builtin.append_, run_underlying ht, sizeOf, typeInfo, hi, Builtin.lenOf, Builtin.firstCells, hnc, storeCells]
end

/-- What an append of the bytes l onto the bytes xs leaves. -/
def Appended (base : Nat) (v : Value) (n : Nat) (xs l : List Nat) (w : World) (v' : Value) (w' : World) : Prop :=
  w'.ownsRow base 5 1 v' (n + l.length) (u8s (xs ++ l)) ∧ w.grownBy w' v.ownBlock ∧ (v'.ownBlock = v.ownBlock ∨ v'.ownBlock = some w.heap.size)
theorem Appended.below {base B n : Nat} {v v' : Value} {xs l : List Nat} {W w w' : World} (h : Appended base v n xs l w v' w') (hW : Below B W w) (hB : B ≤ w.heap.size) (hv : ∀ k, v.ownBlock = some k → B ≤ k) :
    Below B W w' ∧ ∀ k, v'.ownBlock = some k → B ≤ k :=
  ⟨hW.grown h.2.1 hB hv, fun k hk => by
    rcases h.2.2 with e | e
    · exact hv k (by rw [← e]; exact hk)
    · rw [e] at hk
      injection hk with hk
      omega⟩
theorem run_append_bytes (w : World) (ty : TypeId) (base : Nat) (v : Value) (n : Nat) (xs : List Nat) (hown : w.ownsRow base 5 1 v n (u8s xs)) (A : Option Addr) (l : List Nat) (c : Nat) (hat : BytesAt w A l)
    (hlen : n + l.length ≤ 70368744177664) (hbase : base ≤ w.heap.size) : ∃ v' w', (Builtin.append_ #[22, 22] ty #[v, .slice A l.length c]).run Try.prog w = .ok v' w' ∧ Appended base v n xs l w v' w' := by
  obtain ⟨i0, hi0, hz0, hz1, hz2⟩ := info_parts u8_info
  cases A with
  | none =>
    have hl : l = [] := by
      rcases hat with h | ⟨_, _, h, _⟩
      · exact h
      · cases h
    subst hl
    exact ⟨v, w, run_append_nil w base _ ty _ i0 1 Try.underlying22 hi0 v n _ hown c, by simpa using hown, World.grownBy.refl w _, .inl rfl⟩
  | some a =>
    obtain ⟨v', w', hrun, h2, h3, _, h5⟩ := run_append_own_at (P := Try.prog) w base 22 ty 5 i0 _ 1 1 Try.underlying22 hi0 hz0 hz1 hz2 rfl (by omega) v n (u8s xs) hown a l.length c (u8s l)
      (by rw [u8s_length]; omega) hat.cells (u8s_one _) (by simp only [maxLen]; omega) (by omega) hbase
    exact ⟨v', w', hrun, by rw [u8s_append]; exact h2, h3, h5⟩
theorem wpList_append_bytes {w : World} {ops : Array Oper} {rest : List Oper} {o : Oper} {a : Act} {Q : Exit → Act → World → Prop} (hgd : o.guard = none) (s x : Operand)
    (ho : o.op = .call { callee := .builtin .append, args := #[s, x], argTypes := #[22, 22] })
    (base : Nat) (v : Value) (n : Nat) (xs : List Nat) (hs : a.eval s = v) (hown : w.ownsRow base 5 1 v n (u8s xs)) (A : Option Addr) (l : List Nat) (c : Nat) (hx : a.eval x = .slice A l.length c) (hat : BytesAt w A l)
    (hlen : n + l.length ≤ 70368744177664) (hbase : base ≤ w.heap.size) (h : ∀ v' w', Appended base v n xs l w v' w' → wpList Try.prog ops Q rest (a.put o.dst v') w') : wpList Try.prog ops Q (o :: rest) a w := by
  refine wpList_plain hgd fun K hK => ?_
  obtain ⟨v', w', hrun, hap⟩ := run_append_bytes w o.type base v n xs hown A l c hat hlen hbase
  unfold Oper.wp execOp
  simp only [ho, resolve, invoke, builtin, Sem.run_bind, Sem.run_pure, Result.andThen_ok, List.map_toArray, List.map_cons, List.map_nil, hs, hx, hrun]
  exact hK _ _ (h v' w' hap)
end Go.Proofs.Ytkhnhlnnfeebmaa
