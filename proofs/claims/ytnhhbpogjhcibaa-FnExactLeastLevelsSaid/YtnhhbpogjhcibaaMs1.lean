/- Maps from seats to numbers. -/
import Derived.Test.YtnhhbpogjhcibaaLs0
import Derived.Test.YtnhhbpogjhcibaaLd1
import Derived.Test.YtnhhbpogjhcibaaMgG
import Derived.Outline
import Derived.KernelRfl
import Derived.Maps.RangeWalk
import Derived.Maps.OwnSet
import Derived.Maps.Ext
import Derived.DeepKeys4
import Derived.MapViews
import Derived.WideKeyEntry
namespace Go.Proofs.Ytnhhbpogjhcibaa
open Go Go.RowKit Go.Maps Go.WideElems

theorem laidOutC : laidOutB Try.prog = true := by kernel_rfl
theorem rowSeats : (62 : TypeId) < Try.prog.types.size := of_decide_eq_true (by kernel_rfl)
theorem wideSeats : (match Try.prog.underlying 62 with | some (.array _ _) | some (.struct _) => true | _ => false) = true := by rw [Try.underlying62]
theorem lawS : WideMaps.KeyLaw Try.prog 62 := deep_law_laid laidOutC (m := 2) (by omega) rowSeats (by kernel_rfl) wideSeats
theorem keyS : Keyed Try.prog 62 := Keyed.of_law lawS
/-- what seats read as -/
def eS (e : List Int) : Lit := .string (keyBytes (e.map fun x => Lit.int .i64 x))
theorem cellsSeats : Try.prog.cellsOf 62 = 8 := by kernel_rfl
theorem cellsInt8 : Try.prog.cellsOf 3 = 1 := by kernel_rfl
theorem keyTySeats : Try.prog.keyType 62 = true := by kernel_rfl
theorem typesSize8 : ∃ d, Try.prog.types.size + 1 = d + 2 := ⟨Try.prog.types.size - 1, by have : 1 ≤ Try.prog.types.size := of_decide_eq_true (by kernel_rfl); omega⟩
theorem wf64s {x : Int} (h1 : -9223372036854775808 ≤ x) (h2 : x ≤ 9223372036854775807) : (Lit.int .i64 x).wf = true := WalkArith.wf_i64 ⟨h1, h2⟩
theorem keyLit8 (d : Nat) {x : Int} (h : (Lit.int .i64 x).wf = true) : Try.prog.keyLits (d + 1) 3 [.int .i64 x] = some [.int .i64 x] := by
  simp [Program.keyLits, Try.underlying3, h]
theorem key_ofS {e : List Int} (he : In8 e) : keyOf Try.prog 62 (.agg #[.int .i64 (gi e 0), .int .i64 (gi e 1), .int .i64 (gi e 2), .int .i64 (gi e 3), .int .i64 (gi e 4), .int .i64 (gi e 5), .int .i64 (gi e 6), .int .i64 (gi e 7)]) = some (eS e) := by
  have hw : ∀ j, j < 8 → (Lit.int .i64 (gi e j)).wf = true := fun j hj => by have := he.2 j hj; exact wf64s (by omega) (by omega)
  have h0 := hw 0 (by omega); have h1 := hw 1 (by omega); have h2 := hw 2 (by omega); have h3 := hw 3 (by omega); have h4 := hw 4 (by omega); have h5 := hw 5 (by omega); have h6 := hw 6 (by omega); have h7 := hw 7 (by omega)
  obtain ⟨hl, _⟩ := he
  match e, hl with
  | [a, b, c, d, f, g, p, q], _ =>
    obtain ⟨D, hD⟩ := typesSize8
    change (Lit.int .i64 a).wf = true at h0
    change (Lit.int .i64 b).wf = true at h1
    change (Lit.int .i64 c).wf = true at h2
    change (Lit.int .i64 d).wf = true at h3
    change (Lit.int .i64 f).wf = true at h4
    change (Lit.int .i64 g).wf = true at h5
    change (Lit.int .i64 p).wf = true at h6
    change (Lit.int .i64 q).wf = true at h7
    have hk : Try.prog.keyLits (Try.prog.types.size + 1) 62 [.int .i64 a, .int .i64 b, .int .i64 c, .int .i64 d, .int .i64 f, .int .i64 g, .int .i64 p, .int .i64 q] = some [.int .i64 a, .int .i64 b, .int .i64 c, .int .i64 d, .int .i64 f, .int .i64 g, .int .i64 p, .int .i64 q] := by
      rw [hD]
      unfold Program.keyLits
      simp only [Try.underlying62]
      rw [cellsSeats, cellsInt8]
      simp [List.range_succ, keyLit8, h0, h1, h2, h3, h4, h5, h6, h7]
    have hf : (Value.agg #[.int .i64 a, .int .i64 b, .int .i64 c, .int .i64 d, .int .i64 f, .int .i64 g, .int .i64 p, .int .i64 q]).formed Try.prog 62 = true := by simp [Value.formed, Try.underlying62, cellsSeats]
    show keyOf Try.prog 62 (.agg #[.int .i64 a, .int .i64 b, .int .i64 c, .int .i64 d, .int .i64 f, .int .i64 g, .int .i64 p, .int .i64 q]) = _
    unfold keyOf
    rw [Try.underlying62]
    simp only [keyTySeats, hf, Bool.and_self, if_true]
    rw [show (Value.agg #[.int .i64 a, .int .i64 b, .int .i64 c, .int .i64 d, .int .i64 f, .int .i64 g, .int .i64 p, .int .i64 q]).cells.toList = [.int .i64 a, .int .i64 b, .int .i64 c, .int .i64 d, .int .i64 f, .int .i64 g, .int .i64 p, .int .i64 q] from rfl, hk]
    rfl
theorem agg8_inj {a b : List Int} (ha : a.length = 8) (hb : b.length = 8) (h : (Value.agg #[.int .i64 (gi a 0), .int .i64 (gi a 1), .int .i64 (gi a 2), .int .i64 (gi a 3), .int .i64 (gi a 4), .int .i64 (gi a 5), .int .i64 (gi a 6), .int .i64 (gi a 7)]) = .agg #[.int .i64 (gi b 0), .int .i64 (gi b 1), .int .i64 (gi b 2), .int .i64 (gi b 3), .int .i64 (gi b 4), .int .i64 (gi b 5), .int .i64 (gi b 6), .int .i64 (gi b 7)]) : a = b := by
  rw [arr8 ha, arr8 hb] at h
  injection h with h
  have h2 : (I a).toArray.toList = (I b).toArray.toList := by rw [h]
  have h3 : I a = I b := h2
  refine gi_ext (by rw [ha, hb]) (fun j hj => ?_)
  have h4 := congrArg (fun l => l[j]?) h3
  simp only [I_at hj, I_at (show j < b.length by omega)] at h4
  injection h4 with h4
  injection h4
theorem eS_inj {a b : List Int} (ha : In8 a) (hb : In8 b) (h : eS a = eS b) : a = b := by
  have h1 := key_ofS ha
  have h2 := key_ofS hb
  rw [h] at h1
  exact agg8_inj ha.1 hb.1 (keyS.inj h1 h2)
theorem eS_isKey (e : List Int) : WideAt.IsKeyLit (eS e) := trivial
theorem eS_same (e : List Int) : (eS e).sameKey (eS e) = true := by simp [eS, Lit.sameKey]
theorem seatsIn {n : Nat} (h8 : n ≤ 8) {q : List Int} (h : OKp n q) : In8 (seats q) := by
  refine ⟨seats_length q, fun j hj => ?_⟩
  rw [gi_seats _ _ hj, h.2]
  by_cases h1 : j < n
  · rw [if_pos h1]; have := h.range h1; omega
  · rw [if_neg h1]; omega
theorem eSq_inj {n : Nat} (h8 : n ≤ 8) {p q : List Int} (hp : OKp n p) (hq : OKp n q) (h : eS (seats p) = eS (seats q)) : p = q :=
  seats_inj h8 hp.2 hq.2 (eS_inj (seatsIn h8 hp) (seatsIn h8 hq) h)

def ents : DataW Unit → List (Lit × DataW Unit)
  | .map es => es
  | _ => []
def nd (c : Nat) : DataW Unit := .lit (.int .i64 (c : Int))
theorem mem_ins (x p : Lit × DataW Unit) : ∀ l, p ∈ DataW.insert x l → p = x ∨ p ∈ l
  | [], h => by simpa [DataW.insert] using h
  | y :: r, h => by
    simp only [DataW.insert] at h
    split at h
    · simpa using h
    · rcases List.mem_cons.1 h with rfl | h
      · simp
      · rcases mem_ins x p r h with rfl | h <;> simp_all
theorem same_eq {a b : Lit} (h : a.sameKey b = true) : a = b := by
  apply Classical.byContradiction
  intro hne
  rw [sameKey_ne hne] at h
  cases h
theorem atKey_map (es : List (Lit × DataW Unit)) (k : Lit) (z : DataW Unit) : (DataW.map es).atKey k z = (match es.find? (fun p => p.1.sameKey k) with | some p => p.2 | none => z) := by
  unfold DataW.atKey
  dsimp only
  split
  · rename_i x h; rw [h]
  · rename_i h; rw [h]

/-- the map tells the depths of the orders Q -/
structure MD (n : Nat) (Q : List (List Int)) (d : List Int → Nat) (D : DataW Unit) : Prop where
  tidy : Tidy D
  all : ∀ p ∈ ents D, ∃ q ∈ Q, p.1 = eS (seats q)
  has : ∀ q ∈ Q, Maps.has D (eS (seats q)) = true
  val : ∀ q ∈ Q, ∀ z, D.atKey (eS (seats q)) z = nd (d q)
theorem MD.ent {n : Nat} {Q : List (List Int)} {d : List Int → Nat} {D : DataW Unit} (h : MD n Q d D) {kl : Lit} (hk : Maps.has D kl = true) : ∃ q ∈ Q, kl = eS (seats q) := by
  obtain ⟨es, rfl, hp⟩ := h.tidy
  rw [has_eq, List.any_eq_true] at hk
  obtain ⟨p, h1, h2⟩ := hk
  obtain ⟨q, hq, e⟩ := h.all p h1
  exact ⟨q, hq, by rw [← same_eq h2, e]⟩
theorem MD.hasNot {n : Nat} (h8 : n ≤ 8) {Q : List (List Int)} {d : List Int → Nat} {D : DataW Unit} (h : MD n Q d D) (hQ : ∀ q ∈ Q, OKp n q) {x : List Int} (hx : OKp n x) (hn : x ∉ Q) : Maps.has D (eS (seats x)) = false := by
  rw [← Bool.not_eq_true]
  intro e
  obtain ⟨q, hq, e2⟩ := h.ent e
  exact hn (by rw [eSq_inj h8 hx (hQ q hq) e2]; exact hq)
theorem MD.put {n : Nat} (h8 : n ≤ 8) {Q : List (List Int)} {d : List Int → Nat} {D : DataW Unit} (h : MD n Q d D) (hQ : ∀ q ∈ Q, OKp n q) {x : List Int} (hx : OKp n x) (hn : x ∉ Q) (v : Nat) :
    MD n (Q ++ [x]) (upd d x v) (D.put (eS (seats x)) (nd v)) := by
  have hne : ∀ q ∈ Q, q ≠ x := fun q hq e => hn (e ▸ hq)
  have hnk : ∀ q ∈ Q, eS (seats q) ≠ eS (seats x) := fun q hq e => hne q hq (eSq_inj h8 (hQ q hq) hx e)
  have hm : IsMap D := by obtain ⟨es, rfl, _⟩ := h.tidy; exact ⟨es, rfl⟩
  refine ⟨h.tidy.put (eS_isKey _) _, fun p hp => ?_, fun q hq => ?_, fun q hq z => ?_⟩
  · obtain ⟨es, rfl, hpw⟩ := h.tidy
    rcases mem_ins _ _ _ hp with rfl | hp
    · exact ⟨x, by simp, rfl⟩
    · obtain ⟨q, hq, e⟩ := h.all p ((List.mem_filter.1 hp).1)
      exact ⟨q, by simp [hq], e⟩
  · rcases List.mem_append.1 hq with hq | hq
    · rw [has_put_other (hnk q hq)]; exact h.has q hq
    · rw [List.mem_singleton.1 hq]; exact has_put_same hm (eS_isKey _) _
  · rcases List.mem_append.1 hq with hq | hq
    · rw [atKey_put_other (hnk q hq), upd_other (hne q hq)]; exact h.val q hq z
    · rw [List.mem_singleton.1 hq, upd_same]; exact atKey_put_same hm (eS_isKey _) _ _
theorem MD.start (n : Nat) : MD n [upto n] (fun _ => 0) ((DataW.map []).put (eS (seats (upto n))) (nd 0)) := by
  have hm : IsMap (DataW.map (H := Unit) []) := ⟨[], rfl⟩
  refine ⟨tidy_empty.put (eS_isKey _) _, fun p hp => ?_, fun q hq => ?_, fun q hq z => ?_⟩
  · rcases mem_ins _ _ _ hp with rfl | hp
    · exact ⟨upto n, by simp, rfl⟩
    · simp at hp
  · rw [List.mem_singleton.1 hq]; exact has_put_same hm (eS_isKey _) _
  · rw [List.mem_singleton.1 hq]; exact atKey_put_same hm (eS_isKey _) _ _

/-- Block b is a map from seats to numbers. -/
abbrev OS (w : World) (b n : Nat) (D : DataW Unit) : Prop := w.ownsMap Try.prog 62 (plainElem Try.prog 3) b n D
theorem zeroElS (w : World) : (zeroValue 3).run Try.prog w = .ok (.int .i64 0) w := by kernel_rfl
theorem OS.tight {w : World} {b n : Nat} {D : DataW Unit} (h : OS w b n D) : OS w b (Maps.size D) D := by
  obtain ⟨es, clock, hb, F, _, rfl⟩ := h
  refine ⟨es, clock, hb, F, ?_, rfl⟩
  rw [size_eq, length_sorted]
  simp
def numOf : DataW Unit → Int
  | .lit (.int _ c) => c
  | _ => 0
/-- what a look-up finds -/
theorem OS.look {w : World} {b nb n : Nat} {Q : List (List Int)} {d : List Int → Nat} {D : DataW Unit} (h : OS w b nb D) (hM : MD n Q d D) {q : List Int} (hq : q ∈ Q) (hi : In8 (seats q)) :
    (Instr.lookup 59 (.map (some b)) (.agg #[.int .i64 (gi (seats q) 0), .int .i64 (gi (seats q) 1), .int .i64 (gi (seats q) 2), .int .i64 (gi (seats q) 3), .int .i64 (gi (seats q) 4), .int .i64 (gi (seats q) 5), .int .i64 (gi (seats q) 6), .int .i64 (gi (seats q) 7)]) false).run Try.prog w = .ok (.int .i64 (d q : Int)) w := by
  obtain ⟨c1, hl1, ha1, _⟩ := h.lookup_int keyS Try.underlying59 Try.underlying3 (zeroElS w) (key_ofS hi)
  rw [hM.val q hq] at ha1
  have e1 : c1 = (d q : Int) := by
    exact (congrArg numOf ha1).symm
  rw [← e1]
  exact hl1
section
variable {ops : Array Oper} {rest : List Oper} {o : Oper} {a : Act} {Q : Exit → Act → World → Prop}
/-- a map literal's entry -/
theorem wpList_insert_own (w : World)
    (hg : o.guard = none) (m x v : Operand) (t : TypeId) (hop : o.op = Op.insert t m x v)
    (k e : TypeId) (K : Keyed Try.prog k) (ht : Try.prog.underlying t = some (.map k e)) (R : Value → Option (DataW Unit × List MemPlace)) (b n : Nat) (D : DataW Unit)
    (hm : a.eval m = .map (some b)) (hown : w.ownsMap Try.prog k R b n D) (hn : n < maxLen) (key val : Value) (kl : Lit) (hx : a.eval x = key) (hv : a.eval v = val) (hkey : keyOf Try.prog k key = some kl)
    (d : DataW Unit) (ps : List MemPlace) (hval : R val = some (d, ps))
    (hK : ∀ w', w'.ownsMap Try.prog k R b (n + 1) (D.put kl d) → w.grownBy w' (some b) → wpList Try.prog ops Q rest (a.put o.dst undef) w') :
    wpList Try.prog ops Q (o :: rest) a w := by
  refine wpList_plain hg fun K' hK' => ?_
  obtain ⟨w', hrun, r1, r2⟩ := hown.update K ht hn hkey hval
  unfold Oper.wp
  simp [execOp, hop, hm, hx, hv, hrun, Result.andThen]
  exact hK' _ _ (hK w' r1 r2)
end
end Go.Proofs.Ytnhhbpogjhcibaa
