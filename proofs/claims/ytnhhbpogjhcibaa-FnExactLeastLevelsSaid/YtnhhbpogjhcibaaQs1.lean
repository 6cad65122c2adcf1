/- A slice of seats whose first part is taken away: a queue. -/
import Derived.Test.YtnhhbpogjhcibaaLs1
import Derived.Deep.MidRow
namespace Go.Proofs.Ytnhhbpogjhcibaa
open Go Go.RowKit

theorem infoSeats3 : (Try.prog.info? 62).map (fun i => (i.zero, i.size, i.bytes)) = some (some (.agg #[.int .i64 0, .int .i64 0, .int .i64 0, .int .i64 0, .int .i64 0, .int .i64 0, .int .i64 0, .int .i64 0]), 8, 64) := by kernel_rfl
theorem info_parts3 {i : Option TypeInfo} {z : Value} {s b : Nat} (h : i.map (fun i => (i.zero, i.size, i.bytes)) = some (some z, s, b)) : ∃ i0, i = some i0 ∧ i0.zero = some z ∧ i0.size = s ∧ i0.bytes = b := by
  obtain ⟨i0, h1, h2⟩ := Option.map_eq_some_iff.1 h
  simp only [Prod.mk.injEq] at h2
  exact ⟨i0, h1, h2.1, h2.2.1, h2.2.2⟩
/-- the slice, of the call's own from block B on, holds the values xs, eight an element -/
structure QA (w : World) (B : Nat) (A : Option Addr) (n c : Nat) (xs : List Value) : Prop where
  len : xs.length = n * 8
  own : 0 < n → ∃ g off cur, A = some ⟨g, off, none⟩ ∧ B ≤ g ∧ w.heap[g]? = some (.cells cur 62 (0, 0)) ∧ n ≤ c ∧ off + c * 8 = cur.size ∧ ∀ j v, xs[j]? = some v → cur[off + j]? = some v
section
variable {w wi wj : World} {B K n c : Nat} {A : Option Addr} {xs : List Value}
theorem QA.blk (h : QA w B A n c xs) (hn : 0 < n) : ∀ b, Go.Proofs.Ytnhhbpogjhcibaa.blk A = some b → B ≤ b ∧ b < w.heap.size := by
  intro b hb
  obtain ⟨g, off, cur, rfl, hB, hh, _⟩ := h.own hn
  have : g = b := Option.some.inj hb
  subst this
  exact ⟨hB, (Array.getElem?_eq_some_iff.1 hh).1⟩
theorem QA.same (h : QA wi B A n c xs) (hs : ∀ b, Go.Proofs.Ytnhhbpogjhcibaa.blk A = some b → b < wi.heap.size → wj.heap[b]? = wi.heap[b]?) : QA wj B A n c xs :=
  ⟨h.len, fun hn => by
    obtain ⟨g, off, cur, rfl, hB, hh, h1, h2, h3⟩ := h.own hn
    exact ⟨g, off, cur, rfl, hB, (hs g rfl (Array.getElem?_eq_some_iff.1 hh).1).trans hh, h1, h2, h3⟩⟩
theorem QA.below (h : QA wi B A n c xs) (hb : Below wi.heap.size wi wj) : QA wj B A n c xs := h.same (fun b _ hlt => hb.block b hlt)
theorem QA.alloc (h : QA w B A n c xs) (o : Obj) : QA (w.alloc o) B A n c xs := h.below ((Below.refl _ _).alloc (Nat.le_refl _) o)
theorem QA.kept {row : Option Nat} (h : QA wi B A n c xs) (hg : wi.grownBy wj row) (hne : ∀ b, Go.Proofs.Ytnhhbpogjhcibaa.blk A = some b → row ≠ some b) : QA wj B A n c xs :=
  h.same (fun b hb hlt => hg.block b hlt (fun e => hne b hb e.symm))
theorem QA.cell (h : QA w B A n c xs) (hn : 0 < n) : ∃ g off, A = some ⟨g, off, none⟩ ∧ B ≤ g ∧ g < w.heap.size ∧ n ≤ c ∧ ∀ j v, xs[j]? = some v → w.cell? ⟨g, off + j, none⟩ = some v := by
  obtain ⟨g, off, cur, rfl, hB, hh, h1, h2, h3⟩ := h.own hn
  refine ⟨g, off, rfl, hB, (Array.getElem?_eq_some_iff.1 hh).1, h1, fun j v hv => ?_⟩
  simp only [World.cell?, hh]
  simpa using h3 j v hv
theorem QA.tail {g off : Nat} (h : QA w B (some ⟨g, off, none⟩) n c xs) : QA w B (some ⟨g, off + 8, none⟩) (n - 1) (c - 1) (xs.drop 8) := by
  refine ⟨by rw [List.length_drop, h.len]; omega, fun hn => ?_⟩
  obtain ⟨g', off', cur, e, hB, hh, h1, h2, h3⟩ := h.own (by omega)
  injection e with e; injection e with e1 e2 _
  subst e1 e2
  refine ⟨g, off + 8, cur, rfl, hB, hh, by omega, by omega, fun j v hv => ?_⟩
  rw [List.getElem?_drop] at hv
  rw [show off + 8 + j = off + (8 + j) by omega]
  exact h3 _ v hv
theorem QA.none_ (w : World) (B : Nat) (A : Option Addr) (c : Nat) {xs : List Value} (h : xs.length = 0) : QA w B A 0 c xs := ⟨by rw [h], fun h => absurd h (by omega)⟩
end

theorem run_append_room_at (w : World) (t ty e : TypeId) (i : TypeInfo) (ht : Try.prog.underlying t = some (.slice e)) (hi : Try.prog.info? e = some i)
    (g off sLen sCap : Nat) (cur : Array Value) (hg : w.heap[g]? = some (.cells cur e (0, 0)))
    (a : Addr) (m c : Nat) (news : List Value) (hl : news.length = m * i.size) (hnews : ∀ j u, news[j]? = some u → w.cell? (a.add j) = some u) (h1 : ∀ u ∈ news, u.oneCell' = true)
    (hroom : sLen + m ≤ sCap) (hfit : off + sLen * i.size + news.length ≤ cur.size) :
    (Builtin.append_ #[t, t] ty #[.slice (some ⟨g, off, none⟩) sLen sCap, .slice (some a) m c]).run Try.prog w =
      .ok (.slice (some ⟨g, off, none⟩) (sLen + m) sCap) (w.setRow g (cur.toList.take (off + sLen * i.size) ++ news ++ cur.toList.drop (off + sLen * i.size + news.length)).toArray) := by
  have hf := run_firstCells_some (P := Try.prog) w i.size m a m c news hl hnews
  have hst := run_storeCells_at Try.prog g (off + sLen * i.size) e news 0 cur w hg (by simpa using hfit) h1
  simp only [Nat.add_zero] at hst
  simp [Builtin.append_, run_underlying ht, sizeOf, typeInfo, hi, Builtin.lenOf, hroom, hf, Addr.add_mid, hst]

/-- seats put behind a queue -/
theorem run_append_QA (w : World) (ty : TypeId) (B : Nat) (A : Option Addr) (n c : Nat) (xs : List Value) (h : QA w B A n c xs) (hn : 0 < n) (hn2 : n ≤ 1000000) (hB : B ≤ w.heap.size) (b : Nat) (news : List Value) (hl : news.length = 8)
    (hnews : ∀ j u, news[j]? = some u → w.cell? ⟨b, j, none⟩ = some u) (h1 : ∀ u ∈ news, u.oneCell' = true) :
    ∃ A' c' w', (Builtin.append_ #[73, 73] ty #[.slice A n c, .slice (some ⟨b, 0, none⟩) 1 1]).run Try.prog w = .ok (.slice A' (n + 1) c') w' ∧
      QA w' B A' (n + 1) c' (xs ++ news) ∧ w.grownBy w' (blk A) ∧ (blk A' = blk A ∨ blk A' = some w.heap.size) := by
  obtain ⟨i0, hi0, hz0, hz1, hz2⟩ := info_parts3 infoSeats3
  obtain ⟨g, off, cur, rfl, hBg, hh, hnc, hcs, hcur⟩ := h.own hn
  have hnews' : ∀ j u, news[j]? = some u → w.cell? ((⟨b, 0, none⟩ : Addr).add j) = some u := fun j u hu => by rw [Addr.add_mid, Nat.zero_add]; exact hnews j u hu
  have hxl := h.len
  by_cases hroom : n + 1 ≤ c
  · have hr := run_append_room_at w 73 ty 62 i0 Try.underlying73 hi0 g off n c cur hh ⟨b, 0, none⟩ 1 1 news (by rw [hz1, hl]) hnews' h1 hroom (by rw [hz1, hl]; omega)
    refine ⟨_, _, _, hr, ⟨by rw [List.length_append, hxl, hl]; omega, fun _ => ⟨g, off, _, rfl, hBg, setRow_heap w g cur _ 62 _ hh, hroom, ?_, fun j v hv => ?_⟩⟩, ⟨rfl, rfl, rfl, by simp [World.setRow], fun k _ hk => setRow_other w g k _ (fun e => hk (by simp [blk, e]))⟩, .inl rfl⟩
    · simp only [List.size_toArray, List.length_append, List.length_take, List.length_drop, Array.length_toList, hz1, hl]
      omega
    · rw [hz1, hl]
      simp only [List.getElem?_toArray]
      have ht : (cur.toList.take (off + n * 8)).length = off + n * 8 := by rw [List.length_take, Array.length_toList]; omega
      by_cases hj : j < n * 8
      · rw [List.append_assoc, List.getElem?_append_left (by rw [ht]; omega), List.getElem?_take_of_lt (by omega)]
        rw [List.getElem?_append_left (by rw [hxl]; exact hj)] at hv
        simpa using hcur j v hv
      · rw [List.getElem?_append_right (by rw [hxl]; omega), hxl] at hv
        have hj8 : j - n * 8 < 8 := by
          have := (List.getElem?_eq_some_iff.1 hv).1
          omega
        rw [List.append_assoc, List.getElem?_append_right (by rw [ht]; omega), ht, List.getElem?_append_left (by rw [hl]; omega), show off + j - (off + n * 8) = j - n * 8 by omega]
        exact hv
  · have holds : ∀ j v, xs[j]? = some v → w.cell? ((⟨g, off, none⟩ : Addr).add j) = some v := fun j v hv => by
      rw [Addr.add_mid]
      simp only [World.cell?, hh]
      simpa using hcur j v hv
    have hr := run_append_grow (P := Try.prog) w 73 ty 62 i0 _ Try.underlying73 hi0 hz0 ⟨g, off, none⟩ n c xs (by rw [hz1, hxl]) holds ⟨b, 0, none⟩ 1 1 news (by rw [hz1, hl]) hnews' (by omega) (by omega) (growslice_fits (by omega) (by rw [hz2]; omega))
    have hge := grownCap_ge w (n + 1) c 62
    refine ⟨_, _, _, hr, ⟨by rw [List.length_append, hxl, hl]; omega, fun _ => ⟨w.heap.size, 0, _, rfl, hB, heap_alloc_new w.drew _, hge, ?_, fun j v hv => ?_⟩⟩, ⟨rfl, rfl, rfl, by simp, fun k hk _ => (World.grownBy_alloc w.drew _ none).block k hk (by simp)⟩, .inr rfl⟩
    · simp only [Array.size_append, List.size_toArray, size_zeroCells, hxl, hl]
      have : (Value.agg #[.int .i64 0, .int .i64 0, .int .i64 0, .int .i64 0, .int .i64 0, .int .i64 0, .int .i64 0, .int .i64 0]).cells.size = 8 := by decide
      rw [this]
      omega
    · rw [Nat.zero_add, Array.getElem?_append_left (by
        have := (List.getElem?_eq_some_iff.1 hv).1
        simpa using this)]
      simpa using hv

theorem wpList_append_QA {ops : Array Oper} {rest : List Oper} {o : Oper} {a : Act} {Q : Exit → Act → World → Prop} (w : World) (hgd : o.guard = none) (s x : Operand)
    (ho : o.op = .call { callee := .builtin .append, args := #[s, x], argTypes := #[73, 73] })
    (B : Nat) (A : Option Addr) (n c : Nat) (xs : List Value) (b : Nat) (news : List Value) (hs : a.eval s = .slice A n c) (hx : a.eval x = .slice (some ⟨b, 0, none⟩) 1 1) (h : QA w B A n c xs) (hn : 0 < n) (hn2 : n ≤ 1000000) (hB : B ≤ w.heap.size)
    (hl : news.length = 8) (hnews : ∀ j u, news[j]? = some u → w.cell? ⟨b, j, none⟩ = some u) (h1 : ∀ u ∈ news, u.oneCell' = true)
    (hQ : ∀ A' c' w', QA w' B A' (n + 1) c' (xs ++ news) → w.grownBy w' (blk A) → (blk A' = blk A ∨ blk A' = some w.heap.size) → wpList Try.prog ops Q rest (a.put o.dst (.slice A' (n + 1) c')) w') : wpList Try.prog ops Q (o :: rest) a w := by
  refine wpList_plain hgd fun K hK => ?_
  obtain ⟨A', c', w', hrun, h2, h3, h4⟩ := run_append_QA w o.type B A n c xs h hn hn2 hB b news hl hnews h1
  unfold Oper.wp
  simp only [execOp, ho, resolve, invoke, builtin, Sem.run_bind, Sem.run_pure, Result.andThen_ok, List.map_toArray, List.map_cons, List.map_nil, hs, hx, hrun]
  exact hK _ _ (hQ A' c' w' h2 h3 h4)
end Go.Proofs.Ytnhhbpogjhcibaa
