/- CountDepths, of the program. -/
import Derived.Test.YtnhhbpogjhcibaaDp2
import Derived.Test.YtnhhbpogjhcibaaLd6
namespace Go.Proofs.Ytnhhbpogjhcibaa
open Go Go.RowKit Go.Maps

theorem permOf {a b : List (List Int)} (ha : a.Nodup) (hb : b.Nodup) (h : ∀ q, q ∈ a ↔ q ∈ b) : List.Perm a b := by
  rw [List.perm_iff_count]
  intro q
  by_cases hq : q ∈ a
  · rw [ha.count, hb.count, if_pos hq, if_pos ((h q).1 hq)]
  · rw [ha.count, hb.count, if_neg hq, if_neg (fun e => hq ((h q).2 e))]
/-- what is still to come of a map of all orders, P gone by -/
structure Lft (n : Nat) (P : List (List Int)) (left : Lit → Bool) (D : DataW Unit) : Prop where
  nd : P.Nodup
  ok : ∀ q ∈ P, OKp n q
  has : ∀ kl, left kl = true → Maps.has D kl = true
  at_ : ∀ q, OKp n q → (left (eS (seats q)) = true ↔ q ∉ P)
theorem Lft.start {n : Nat} {D : DataW Unit} {d : List Int → Nat} (h1 : 1 ≤ n) (h8 : n ≤ 8) (h : MD n (ordsK n n) d D) : Lft n [] (Maps.has D) D :=
  ⟨by simp, fun q hq => by simp at hq, fun _ h => h, fun q hq => by simp [h.has q (((ordsK_all h1 h8).mem q).2 hq)]⟩
theorem Lft.step {n : Nat} {P : List (List Int)} {left : Lit → Bool} {D : DataW Unit} (h8 : n ≤ 8) (h : Lft n P left D) {q : List Int} (hq : OKp n q) (hl : left (eS (seats q)) = true) :
    Lft n (P ++ [q]) (fun z => left z && !z.sameKey (eS (seats q))) D := by
  have hnp := (h.at_ q hq).1 hl
  refine ⟨?_, fun p hp => ?_, fun kl hk => ?_, fun p hp => ?_⟩
  · rw [List.nodup_append]
    exact ⟨h.nd, by simp, fun a ha b hb => by rw [List.mem_singleton.1 hb]; exact fun e => hnp (e ▸ ha)⟩
  · rcases List.mem_append.1 hp with hp | hp
    · exact h.ok p hp
    · rw [List.mem_singleton.1 hp]; exact hq
  · rw [Bool.and_eq_true] at hk
    exact h.has kl hk.1
  · by_cases e : p = q
    · subst e; simp [eS_same]
    · have hne : (eS (seats p)).sameKey (eS (seats q)) = false := by
        rw [← Bool.not_eq_true]
        intro e2
        exact e (eSq_inj h8 hp hq (same_eq e2))
      simp only [hne, Bool.not_false, Bool.and_true, List.mem_append, List.mem_singleton, e, or_false]
      exact h.at_ p hp
theorem Lft.done {n : Nat} {P : List (List Int)} {left : Lit → Bool} {D : DataW Unit} (h1 : 1 ≤ n) (h8 : n ≤ 8) (h : Lft n P left D) (hd : ∀ kl, left kl = false) : cdL (P.map (dep n)) = cdL (dpL n) := by
  refine cdL_perm ?_
  unfold dpL
  refine List.Perm.map _ (permOf h.nd (ordsK_all h1 h8).nd (fun q => ?_))
  rw [(ordsK_all h1 h8).mem q]
  constructor
  · exact h.ok q
  · intro hq
    apply Classical.byContradiction
    intro hn
    have := (h.at_ q hq).2 hn
    rw [hd] at this
    cases this

section
variable {ops : Array Oper} {rest : List Oper} {o : Oper} {a : Act} {Q' : Exit → Act → World → Prop}
set_option maxRecDepth 100000 in
/-- the step of a loop over a map of such a kind -/
theorem wpList_next_OS (w : World) (hg : o.guard = none) (it : Operand) (hop : o.op = Op.next it false) (b r nb n : Nat) (Q : List (List Int)) (d : List Int → Nat) (D : DataW Unit) (left : Lit → Bool) (cnt : Nat)
    (hit : a.eval it = .pointer (some ⟨r, 0, none⟩)) (h : w.ranges Try.prog 62 (plainElem Try.prog 3) b r nb D left cnt) (hM : MD n Q d D) (hQ : ∀ q ∈ Q, OKp n q) (h8 : n ≤ 8) (hl : ∀ kl, left kl = true → Maps.has D kl = true)
    (hDone : (∀ kl, left kl = false) → wpList Try.prog ops Q' rest (a.put o.dst (.tuple #[.bool false])) w)
    (hMore : ∀ (q : List Int) (w' : World) (cnt' : Nat), q ∈ Q → left (eS (seats q)) = true → w'.ranges Try.prog 62 (plainElem Try.prog 3) b r nb D (fun z => left z && !z.sameKey (eS (seats q))) cnt' → cnt' < cnt →
      w.grownBy w' (some r) → w'.heap.size = w.heap.size → (Instr.entry (.pointer (some ⟨r, 0, none⟩))).run Try.prog w' = .ok (.tuple #[.agg #[.int .i64 (gi (seats q) 0), .int .i64 (gi (seats q) 1), .int .i64 (gi (seats q) 2), .int .i64 (gi (seats q) 3), .int .i64 (gi (seats q) 4), .int .i64 (gi (seats q) 5), .int .i64 (gi (seats q) 6), .int .i64 (gi (seats q) 7)], .int .i64 (d q : Int)]) w' →
      wpList Try.prog ops Q' rest (a.put o.dst (.tuple #[.bool true, .agg #[.int .i64 (gi (seats q) 0), .int .i64 (gi (seats q) 1), .int .i64 (gi (seats q) 2), .int .i64 (gi (seats q) 3), .int .i64 (gi (seats q) 4), .int .i64 (gi (seats q) 5), .int .i64 (gi (seats q) 6), .int .i64 (gi (seats q) 7)], .int .i64 (d q : Int)])) w') :
    wpList Try.prog ops Q' (o :: rest) a w := by
  refine wpList_next_ranges w hg it hop 62 keyS (plainElem Try.prog 3) (fun v : Value => v) (fun c : Int => Value.int .i64 c)
    (fun key kl _ => ⟨key, rfl⟩)
    (fun v y hv => by obtain ⟨c, rfl, _⟩ := plainElem_int_inv Try.underlying3 hv; exact ⟨c, rfl⟩) b r nb D left cnt hit h (fun _ hl0 => hDone hl0) ?_
  intro x c kl y w' cnt' hkey hlk hv hat hrg hlt hgr hsz hen
  obtain ⟨q, hq, hkl⟩ := hM.ent (hl kl hlk)
  obtain ⟨c', ec, rfl, _⟩ := plainElem_int_inv Try.underlying3 hv
  injection ec with _ ec
  subst ec
  subst hkl
  have e1 := (hat (nd 0)).symm.trans (hM.val q hq (nd 0))
  have e3 : c = (d q : Int) := congrArg numOf e1
  subst e3
  have e2 : x = .agg #[.int .i64 (gi (seats q) 0), .int .i64 (gi (seats q) 1), .int .i64 (gi (seats q) 2), .int .i64 (gi (seats q) 3), .int .i64 (gi (seats q) 4), .int .i64 (gi (seats q) 5), .int .i64 (gi (seats q) 6), .int .i64 (gi (seats q) 7)] := keyS.inj hkey (key_ofS (seatsIn h8 (hQ q hq)))
  subst e2
  exact hMore q w' cnt' hq hlk hrg hlt hgr hsz hen
end
end Go.Proofs.Ytnhhbpogjhcibaa
