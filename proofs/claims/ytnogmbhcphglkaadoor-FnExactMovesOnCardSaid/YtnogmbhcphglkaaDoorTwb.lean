/- Many texts appended to a row of the call's own. -/
import Derived.Test.YtnogmbhcphglkaaDoorTwa
import Derived.Test.YtnogmbhcphglkaaDoorApp2
namespace Go.Proofs.YtnogmbhcphglkaaDoor
open Go Go.RowKit

theorem TS_one (zs : List (List UInt8)) : ∀ u ∈ TS zs, u.oneCell' = true := fun u hu => by
  obtain ⟨z, _, rfl⟩ := List.mem_map.1 hu
  rfl

set_option maxRecDepth 100000 in
theorem run_append_texts (w : World) (ty : TypeId) (B : Nat) (A : Option Addr) (n c : Nat) (zs : List (List UInt8)) (A2 : Option Addr) (m c2 : Nat) (ys : List (List UInt8)) (hown : OT w B A n c zs) (hr : RT w A2 m ys)
    (hn : n ≤ 1000000000000) (hm : m ≤ 1000000000000) (hB : B ≤ w.heap.size) :
    ∃ A' c' w', (Builtin.append_ #[26, 26] ty #[.slice A n c, .slice A2 m c2]).run Tryd.prog w = .ok (.slice A' (n + m) c') w' ∧ OT w' B A' (n + m) c' (zs ++ ys) ∧ w.grownBy w' (blk A) := by
  obtain ⟨i0, hi0, hz0, hz1, hz2⟩ := info_parts infoText
  rcases A2 with _ | ad
  · have hm0 : m = 0 := by
      rcases Nat.eq_zero_or_pos m with h0 | h0
      · exact h0
      · obtain ⟨b, off, e, _⟩ := hr.2 h0
        cases e
    subst hm0
    have hy : ys = [] := List.eq_nil_of_length_eq_zero hr.1
    subst hy
    exact ⟨A, c, w, run_append_nil w B _ _ _ i0 Tryd.underlying26 hi0 _ n _ hown.2 c2, by simpa using hown, grown_refl _ _⟩
  · have hcells : ∀ j u, (TS ys)[j]? = some u → w.cell? (ad.add j) = some u := by
      intro j u hu
      have hj : j < ys.length := by
        rcases Nat.lt_or_ge j ys.length with h | h
        · exact h
        · rw [List.getElem?_eq_none (by rw [TS_length]; exact h)] at hu; cases hu
      obtain ⟨b, off, e, _, hc⟩ := hr.2 (by have := hr.1; omega)
      injection e with e
      subst e
      rw [TS_at hj] at hu
      injection hu with hu
      subst hu
      have := hc j (by have := hr.1; omega)
      unfold Addr.add
      by_cases h0 : j = 0
      · subst h0; simpa using this
      · simpa [h0] using this
    obtain ⟨v', w', hrun, h2, h3, _⟩ := run_append_own (P := Tryd.prog) w B 26 ty 9 i0 (.string ⟨#[]⟩) 1 16 Tryd.underlying26 hi0 hz0 hz1 hz2 rfl (by decide) _ n (TS zs) hown.2 ad m c2 (TS ys) (by rw [TS_length, hr.1]; simp) hcells (TS_one ys) (by unfold maxLen; omega) (by omega) hB
    obtain ⟨A', c', rfl, ho'⟩ := OT.of_own (zs := zs ++ ys) h2 (by simp [TS])
    exact ⟨A', c', w', hrun, ho', by rwa [ownBlock_eq] at h3⟩

theorem wpList_append_texts {ops : Array Oper} {rest : List Oper} {o : Oper} {a : Act} {Q : Exit → Act → World → Prop} (w : World) (hgd : o.guard = none) (s x : Operand)
    (ho : o.op = .call { callee := .builtin .append, args := #[s, x], argTypes := #[26, 26] })
    (B : Nat) (A : Option Addr) (n c : Nat) (zs : List (List UInt8)) (A2 : Option Addr) (m c2 : Nat) (ys : List (List UInt8)) (hs : a.eval s = .slice A n c) (hx : a.eval x = .slice A2 m c2) (hown : OT w B A n c zs) (hr : RT w A2 m ys)
    (hn : n ≤ 1000000000000) (hm : m ≤ 1000000000000) (hB : B ≤ w.heap.size)
    (h : ∀ A' c' w', OT w' B A' (n + m) c' (zs ++ ys) → w.grownBy w' (blk A) → wpList Tryd.prog ops Q rest (a.put o.dst (.slice A' (n + m) c')) w') : wpList Tryd.prog ops Q (o :: rest) a w := by
  refine wpList_plain hgd fun K hK => ?_
  obtain ⟨A', c', w', hrun, h2, h3⟩ := run_append_texts w o.type B A n c zs A2 m c2 ys hown hr hn hm hB
  unfold Oper.wp
  simp only [execOp, ho, resolve, invoke, builtin, Sem.run_bind, Sem.run_pure, Result.andThen_ok, List.map_toArray, List.map_cons, List.map_nil, hs, hx, hrun]
  exact hK _ _ (h A' c' w' h2 h3)

theorem step_append_texts {ops : Array Oper} {o : Oper} {a : Act} {K : Act → World → Prop} {Q : Exit → Act → World → Prop} {E : Prop} (w : World) (hgd : o.guard = none) (s x : Operand)
    (ho : o.op = .call { callee := .builtin .append, args := #[s, x], argTypes := #[26, 26] })
    (B : Nat) (A : Option Addr) (n c : Nat) (zs : List (List UInt8)) (A2 : Option Addr) (m c2 : Nat) (ys : List (List UInt8)) (hs : a.eval s = .slice A n c) (hx : a.eval x = .slice A2 m c2) (hown : OT w B A n c zs) (hr : RT w A2 m ys)
    (hn : n ≤ 1000000000000) (hm : m ≤ 1000000000000) (hB : B ≤ w.heap.size)
    (h : ∀ A' c' w', OT w' B A' (n + m) c' (zs ++ ys) → w.grownBy w' (blk A) → K (a.put o.dst (.slice A' (n + m) c')) w') :
    if Region.wanted o (yielded ops a.tmps) = true then Oper.wp Tryd.prog o a w K Q else E := by
  have hw : Region.wanted o (yielded ops a.tmps) = true := by simp [Region.wanted, hgd]
  rw [if_pos hw]
  obtain ⟨A', c', w', hrun, h2, h3⟩ := run_append_texts w o.type B A n c zs A2 m c2 ys hown hr hn hm hB
  unfold Oper.wp
  simp only [execOp, ho, resolve, invoke, builtin, Sem.run_bind, Sem.run_pure, Result.andThen_ok, List.map_toArray, List.map_cons, List.map_nil, hs, hx, hrun]
  exact h A' c' w' h2 h3
/-- one number in a new block reads as a list of one -/
theorem RT.single (w : World) (z : List UInt8) : RT (w.alloc (.cells #[str z] 9)) (some ⟨w.heap.size, 0, none⟩) 1 [z] :=
  ⟨rfl, fun _ => ⟨w.heap.size, 0, rfl, by simp, fun j hj => by obtain rfl : j = 0 := by omega
                                                               simp [gt]⟩⟩
end Go.Proofs.YtnogmbhcphglkaaDoor
