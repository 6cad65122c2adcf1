/- Maps from the ends of some to numbers, and what they weigh. -/
import Derived.Test.YtbgkhehopldilaaProg
import Derived.Test.YtbgkhehopldilaaCe1
import Derived.Outline
import Derived.KernelRfl
import Derived.Maps.RangeWalk
import Derived.Maps.OwnSet
import Derived.Maps.Ext
import Derived.DeepKeys4
import Derived.MapViews
namespace Go.Proofs.Ytbgkhehopldilaa
open Go Go.Maps

theorem laidOutC : laidOutB Try.prog = true := by kernel_rfl
theorem rowEnds : (60 : TypeId) < Try.prog.types.size := of_decide_eq_true (by kernel_rfl)
theorem wideEnds : (match Try.prog.underlying 60 with | some (.array _ _) | some (.struct _) => true | _ => false) = true := by rw [Try.underlying60]
theorem keyE : Keyed Try.prog 60 := Keyed.of_law (deep_law_laid laidOutC (m := 2) (by omega) rowEnds (by kernel_rfl) wideEnds)

/-- what the ends of some read as -/
def eL (e : List Int) : Lit := .string (keyBytes (e.map fun x => Lit.int .i64 x))

theorem cellsEnds : Try.prog.cellsOf 60 = 6 := by kernel_rfl
theorem cellsInt : Try.prog.cellsOf 3 = 1 := by kernel_rfl
theorem keyTyEnds : Try.prog.keyType 60 = true := by kernel_rfl
theorem typesSize : ∃ d, Try.prog.types.size + 1 = d + 2 := ⟨Try.prog.types.size - 1, by have : 1 ≤ Try.prog.types.size := of_decide_eq_true (by kernel_rfl); omega⟩
theorem wf64 {x : Int} (h1 : -9223372036854775808 ≤ x) (h2 : x ≤ 9223372036854775807) : (Lit.int .i64 x).wf = true := WalkArith.wf_i64 ⟨h1, h2⟩
theorem keyLit1 (d : Nat) {x : Int} (h : (Lit.int .i64 x).wf = true) : Try.prog.keyLits (d + 1) 3 [.int .i64 x] = some [.int .i64 x] := by
  simp [Program.keyLits, Try.underlying3, h]
theorem key_of {e : List Int} {n : Nat} (h : OKE n e) (hn : n ≤ 6) : keyOf Try.prog 60 (.agg #[.int .i64 (gi e 0), .int .i64 (gi e 1), .int .i64 (gi e 2), .int .i64 (gi e 3), .int .i64 (gi e 4), .int .i64 (gi e 5)]) = some (eL e) := by
  have hw : ∀ j, j < 6 → (Lit.int .i64 (gi e j)).wf = true := fun j hj => by have := h.at hj; exact wf64 (by omega) (by omega)
  have h0 := hw 0 (by omega); have h1 := hw 1 (by omega); have h2 := hw 2 (by omega); have h3 := hw 3 (by omega); have h4 := hw 4 (by omega); have h5 := hw 5 (by omega)
  obtain ⟨hl, _⟩ := h
  match e, hl with
  | [a, b, c, d, f, g], _ =>
    obtain ⟨D, hD⟩ := typesSize
    change (Lit.int .i64 a).wf = true at h0
    change (Lit.int .i64 b).wf = true at h1
    change (Lit.int .i64 c).wf = true at h2
    change (Lit.int .i64 d).wf = true at h3
    change (Lit.int .i64 f).wf = true at h4
    change (Lit.int .i64 g).wf = true at h5
    have hk : Try.prog.keyLits (Try.prog.types.size + 1) 60 [.int .i64 a, .int .i64 b, .int .i64 c, .int .i64 d, .int .i64 f, .int .i64 g] = some [.int .i64 a, .int .i64 b, .int .i64 c, .int .i64 d, .int .i64 f, .int .i64 g] := by
      rw [hD]
      unfold Program.keyLits
      simp only [Try.underlying60]
      rw [cellsEnds, cellsInt]
      simp [List.range_succ, keyLit1, h0, h1, h2, h3, h4, h5]
    have hf : (Value.agg #[.int .i64 a, .int .i64 b, .int .i64 c, .int .i64 d, .int .i64 f, .int .i64 g]).formed Try.prog 60 = true := by simp [Value.formed, Try.underlying60, cellsEnds]
    show keyOf Try.prog 60 (.agg #[.int .i64 a, .int .i64 b, .int .i64 c, .int .i64 d, .int .i64 f, .int .i64 g]) = _
    unfold keyOf
    rw [Try.underlying60]
    simp only [keyTyEnds, hf, Bool.and_self, if_true]
    rw [show (Value.agg #[.int .i64 a, .int .i64 b, .int .i64 c, .int .i64 d, .int .i64 f, .int .i64 g]).cells.toList = [.int .i64 a, .int .i64 b, .int .i64 c, .int .i64 d, .int .i64 f, .int .i64 g] from rfl, hk]
    rfl
theorem arr6 {ys : List Int} (h : ys.length = 6) : (#[.int .i64 (gi ys 0), .int .i64 (gi ys 1), .int .i64 (gi ys 2), .int .i64 (gi ys 3), .int .i64 (gi ys 4), .int .i64 (gi ys 5)] : Array Value) = (I ys).toArray := by
  match ys, h with
  | [a, b, c, d, e, f], _ => rfl
theorem arr6_inj {a b : List Int} (ha : a.length = 6) (hb : b.length = 6) (h : (Value.agg #[.int .i64 (gi a 0), .int .i64 (gi a 1), .int .i64 (gi a 2), .int .i64 (gi a 3), .int .i64 (gi a 4), .int .i64 (gi a 5)]) = .agg #[.int .i64 (gi b 0), .int .i64 (gi b 1), .int .i64 (gi b 2), .int .i64 (gi b 3), .int .i64 (gi b 4), .int .i64 (gi b 5)]) : a = b := by
  rw [arr6 ha, arr6 hb] at h
  injection h with h
  have h2 : (I a).toArray.toList = (I b).toArray.toList := by rw [h]
  have h3 : I a = I b := h2
  refine gi_ext (by rw [ha, hb]) (fun j hj => ?_)
  have h4 := congrArg (fun l => l[j]?) h3
  simp only [I_at hj, I_at (show j < b.length by omega)] at h4
  injection h4 with h4
  injection h4
theorem eL_inj {n m : Nat} {a b : List Int} (ha : OKE n a) (hb : OKE m b) (hn : n ≤ 6) (hm : m ≤ 6) (h : eL a = eL b) : a = b := by
  have h1 := key_of ha hn
  have h2 := key_of hb hm
  rw [h] at h1
  exact arr6_inj ha.1 hb.1 (keyE.inj h1 h2)

theorem eL_isKey (e : List Int) : WideAt.IsKeyLit (eL e) := trivial
theorem eL_same (e : List Int) : (eL e).sameKey (eL e) = true := by simp [eL, Lit.sameKey]

/-! what maps weigh -/
def valN : DataW Unit → Nat
  | .lit (.int _ c) => c.toNat
  | _ => 0
def ents : DataW Unit → List (Lit × DataW Unit)
  | .map es => es
  | _ => []
def wtL (g : Lit → Nat) (es : List (Lit × DataW Unit)) : Nat := (es.map fun p => g p.1 * valN p.2).sum
def wt (g : Lit → Nat) (D : DataW Unit) : Nat := wtL g (ents D)
def nd (c : Nat) : DataW Unit := .lit (.int .i64 (c : Int))
theorem valN_nd (c : Nat) : valN (nd c) = c := by simp [valN, nd]
def at0 (D : DataW Unit) (k : Lit) : Nat := valN (D.atKey k (nd 0))
theorem wtL_cons (g : Lit → Nat) (x : Lit × DataW Unit) (l : List (Lit × DataW Unit)) : wtL g (x :: l) = g x.1 * valN x.2 + wtL g l := rfl
theorem wtL_insert (g : Lit → Nat) (x : Lit × DataW Unit) : ∀ l, wtL g (DataW.insert x l) = g x.1 * valN x.2 + wtL g l
  | [] => rfl
  | y :: r => by
    simp only [DataW.insert]
    split
    · rfl
    · rw [wtL_cons, wtL_cons, wtL_insert g x r]; omega
theorem mem_ins (x p : Lit × DataW Unit) : ∀ l, p ∈ DataW.insert x l → p = x ∨ p ∈ l
  | [], h => by simpa [DataW.insert] using h
  | y :: r, h => by
    simp only [DataW.insert] at h
    split at h
    · simpa using h
    · rcases List.mem_cons.1 h with rfl | h
      · simp
      · rcases mem_ins x p r h with rfl | h <;> simp_all
theorem same_eq {a b : Lit} (h : a.sameKey b = true) : a = b := by
  apply Classical.byContradiction
  intro hne
  rw [sameKey_ne hne] at h
  cases h
theorem atKey_map (es : List (Lit × DataW Unit)) (k : Lit) (z : DataW Unit) : (DataW.map es).atKey k z = (match es.find? (fun p => p.1.sameKey k) with | some p => p.2 | none => z) := by
  unfold DataW.atKey
  dsimp only
  split
  · rename_i x h; rw [h]
  · rename_i h; rw [h]
theorem wtL_split (g : Lit → Nat) (k : Lit) : ∀ (es : List (Lit × DataW Unit)), es.Pairwise (fun p q => p.1 ≠ q.1) →
    wtL g (es.filter fun p => !p.1.sameKey k) + g k * valN (match es.find? (fun p => p.1.sameKey k) with | some p => p.2 | none => nd 0) = wtL g es
  | [], _ => by simp [wtL, valN_nd]
  | x :: r, h => by
    rw [List.pairwise_cons] at h
    by_cases hx : x.1.sameKey k = true
    · have e := same_eq hx
      have hr : r.filter (fun p => !p.1.sameKey k) = r := by
        rw [List.filter_eq_self]
        intro p hp
        have hne : p.1 ≠ k := fun e2 => h.1 p hp (by rw [e, e2])
        rw [sameKey_ne hne]; rfl
      rw [List.filter_cons, hx, List.find?_cons, hx, wtL_cons]
      simp only [Bool.not_true, Bool.false_eq_true, if_false]
      rw [hr, e]; omega
    · have hx' : x.1.sameKey k = false := by simpa using hx
      have ih := wtL_split g k r h.2
      rw [List.filter_cons, hx', List.find?_cons, hx', wtL_cons]
      simp only [Bool.not_false, if_true]
      rw [wtL_cons]; omega
theorem wt_put {D : DataW Unit} (h : Tidy D) (g : Lit → Nat) (k : Lit) (d : DataW Unit) : wt g (D.put k d) + g k * at0 D k = wt g D + g k * valN d := by
  obtain ⟨es, rfl, hp⟩ := h
  have h1 := wtL_split g k es hp
  have h2 : wt g ((DataW.map es).put k d) = wtL g (DataW.insert (k, d) (es.filter fun p => !p.1.sameKey k)) := rfl
  have h3 : wt g (DataW.map es) = wtL g es := rfl
  unfold at0
  rw [h2, h3, atKey_map, wtL_insert]
  simp only
  omega
theorem at0_le {D : DataW Unit} (h : Tidy D) (g : Lit → Nat) (k : Lit) : g k * at0 D k ≤ wt g D := by
  obtain ⟨es, rfl, hp⟩ := h
  have h1 := wtL_split g k es hp
  unfold at0
  rw [atKey_map]
  have h3 : wt g (DataW.map es) = wtL g es := rfl
  omega
def addTo (D : DataW Unit) (k : Lit) (c : Nat) : DataW Unit := D.put k (nd (at0 D k + c))
theorem wt_add {D : DataW Unit} (h : Tidy D) (g : Lit → Nat) (k : Lit) (c : Nat) : wt g (addTo D k c) = wt g D + g k * c := by
  have h1 := wt_put h g k (nd (at0 D k + c))
  rw [valN_nd, Nat.mul_add] at h1
  unfold addTo
  omega
theorem wt_nil (g : Lit → Nat) : wt g (.map []) = 0 := rfl

/-- A map whose keys are ends, its numbers above nought. -/
def Gm (n : Nat) (D : DataW Unit) : Prop := Tidy D ∧ ∀ p ∈ ents D, ∃ e c, OKE n e ∧ p.1 = eL e ∧ p.2 = nd c ∧ 0 < c
theorem Gm.empty (n : Nat) : Gm n (.map []) := ⟨tidy_empty, fun p h => by cases h⟩
theorem Gm.add {n : Nat} {D : DataW Unit} (h : Gm n D) {e : List Int} (he : OKE n e) {c : Nat} (hc : 0 < c) : Gm n (addTo D (eL e) c) := by
  obtain ⟨ht, hE⟩ := h
  refine ⟨ht.put (eL_isKey _) _, ?_⟩
  obtain ⟨es, rfl, hp⟩ := ht
  intro p hp
  rcases mem_ins _ _ _ hp with rfl | hp
  · exact ⟨e, _, he, rfl, rfl, by omega⟩
  · exact hE p ((List.mem_filter.1 hp).1)
theorem Gm.at {n : Nat} {D : DataW Unit} (h : Gm n D) {kl : Lit} (hk : Maps.has D kl = true) : ∃ e c, OKE n e ∧ kl = eL e ∧ (∀ z, D.atKey kl z = nd c) ∧ 0 < c := by
  obtain ⟨⟨es, rfl, hp⟩, he⟩ := h
  rw [has_eq] at hk
  rcases hf : es.find? (fun p => p.1.sameKey kl) with _ | p
  · rw [List.find?_eq_none] at hf
    rw [List.any_eq_true] at hk
    obtain ⟨p, h1, h2⟩ := hk
    exact absurd h2 (hf p h1)
  · have hm := List.mem_of_find?_eq_some hf
    have hs := List.find?_some hf
    obtain ⟨q, c, h1, h2, h3, h4⟩ := he p hm
    have e := same_eq hs
    refine ⟨q, c, h1, by rw [← e, h2], fun z => ?_, h4⟩
    rw [atKey_map, hf]
    exact h3
theorem wtL_size (g : Lit → Nat) : ∀ (es : List (Lit × DataW Unit)), (∀ p ∈ es, 1 ≤ g p.1 ∧ 1 ≤ valN p.2) → es.length ≤ wtL g es
  | [], _ => Nat.le_refl _
  | p :: r, h => by
    have h1 := h p (by simp)
    have h2 := wtL_size g r (fun q hq => h q (by simp [hq]))
    have h3 : 1 * 1 ≤ g p.1 * valN p.2 := Nat.mul_le_mul h1.1 h1.2
    rw [wtL_cons, List.length_cons]
    omega

/-- What a key weighs: what its ends do. -/
noncomputable def gE (f : List Int → Nat) (l : Lit) : Nat :=
  open Classical in if h : ∃ e, OKE 6 e ∧ l = eL e then f (Classical.choose h) else 0
theorem OKE.six {n : Nat} {e : List Int} (h : OKE n e) (hn : n ≤ 6) : OKE 6 e := ⟨h.1, fun x hx => by have := h.2 x hx; omega⟩
theorem gE_at (f : List Int → Nat) {n : Nat} {e : List Int} (h : OKE n e) (hn : n ≤ 6) : gE f (eL e) = f e := by
  have hx : ∃ e', OKE 6 e' ∧ eL e = eL e' := ⟨e, h.six hn, rfl⟩
  unfold gE
  rw [dif_pos hx]
  have hs := Classical.choose_spec hx
  exact congrArg f (eL_inj (h.six hn) hs.1 (Nat.le_refl _) (Nat.le_refl _) hs.2).symm
/-- what a map weighs by f of its keys -/
noncomputable def W (f : List Int → Nat) (D : DataW Unit) : Nat := wt (gE f) D
theorem W_nil (f : List Int → Nat) : W f (.map []) = 0 := rfl
theorem W_add {n : Nat} {D : DataW Unit} (h : Gm n D) (hn : n ≤ 6) (f : List Int → Nat) {e : List Int} (he : OKE n e) (c : Nat) : W f (addTo D (eL e) c) = W f D + f e * c := by
  unfold W; rw [wt_add h.1, gE_at f he hn]
theorem W_at {n : Nat} {D : DataW Unit} (h : Gm n D) (hn : n ≤ 6) (f : List Int → Nat) {e : List Int} (he : OKE n e) : f e * at0 D (eL e) ≤ W f D := by
  have := at0_le h.1 (gE f) (eL e)
  rw [gE_at f he hn] at this
  exact this
def one : List Int → Nat := fun _ => 1
theorem Gm.size {n : Nat} {D : DataW Unit} (h : Gm n D) (hn : n ≤ 6) : Maps.size D ≤ W one D := by
  obtain ⟨⟨es, rfl, hp⟩, he⟩ := h
  refine wtL_size (gE one) es fun p hp => ?_
  obtain ⟨q, c, h1, h2, h3, h4⟩ := he p hp
  rw [h2, h3, valN_nd, gE_at one h1 hn]
  exact ⟨Nat.le_refl _, h4⟩
theorem wt_congr {D : DataW Unit} {g h : Lit → Nat} (hx : ∀ p ∈ ents D, g p.1 = h p.1) : wt g D = wt h D := by
  unfold wt wtL
  exact ssum_congr fun p hp => by rw [hx p hp]
theorem W_congr {n : Nat} {D : DataW Unit} (h : Gm n D) (hn : n ≤ 6) {f g : List Int → Nat} (hx : ∀ e, OKE n e → f e = g e) : W f D = W g D := by
  refine wt_congr fun p hp => ?_
  obtain ⟨q, c, h1, h2, _, _⟩ := h.2 p hp
  rw [h2, gE_at f h1 hn, gE_at g h1 hn, hx q h1]

/-! what is still to come in a loop over a map -/
noncomputable def Wl (f : List Int → Nat) (left : Lit → Bool) (D : DataW Unit) : Nat := wt (fun z => if left z = true then gE f z else 0) D
theorem Wl_none (f : List Int → Nat) {left : Lit → Bool} (h : ∀ kl, left kl = false) (D : DataW Unit) : Wl f left D = 0 := by
  unfold Wl wt wtL
  rw [show (fun p : Lit × DataW Unit => (if left p.1 = true then gE f p.1 else 0) * valN p.2) = fun _ => 0 from funext fun p => by rw [h]; simp]
  rw [ssum_const]; simp
theorem has_ent {D : DataW Unit} {n : Nat} (h : Gm n D) {p : Lit × DataW Unit} (hp : p ∈ ents D) : Maps.has D p.1 = true := by
  obtain ⟨⟨es, rfl, _⟩, he⟩ := h
  obtain ⟨q, c, h1, h2, _, _⟩ := he p hp
  rw [has_eq, List.any_eq_true]
  exact ⟨p, hp, by rw [h2, eL_same]⟩
theorem Wl_start {D : DataW Unit} {n : Nat} (h : Gm n D) (f : List Int → Nat) : Wl f (Maps.has D) D = W f D :=
  wt_congr fun p hp => by rw [has_ent h hp, if_pos rfl]
theorem wtL_strike (g : Lit → Nat) (left : Lit → Bool) (k : Lit) : ∀ (es : List (Lit × DataW Unit)),
    wtL (fun z => if (left z && !z.sameKey k) = true then g z else 0) es = wtL (fun z => if left z = true then g z else 0) (es.filter fun p => !p.1.sameKey k)
  | [] => rfl
  | x :: r => by
    rw [wtL_cons, wtL_strike g left k r, List.filter_cons]
    rcases hx : x.1.sameKey k with _ | _
    · simp only [Bool.not_false, Bool.and_true, if_true]
      rw [wtL_cons]
    · simp
theorem Wl_strike {D : DataW Unit} {n : Nat} (h : Gm n D) (hn : n ≤ 6) (f : List Int → Nat) {left : Lit → Bool} {e : List Int} (he : OKE n e) (hl : left (eL e) = true) :
    Wl f (fun z => left z && !z.sameKey (eL e)) D + f e * at0 D (eL e) = Wl f left D := by
  obtain ⟨⟨es, rfl, hp⟩, _⟩ := h
  have h1 := wtL_split (fun z => if left z = true then gE f z else 0) (eL e) es hp
  have h2 := wtL_strike (gE f) left (eL e) es
  unfold Wl at0
  rw [atKey_map]
  show wtL _ es + _ = wtL _ es
  rw [h2]
  rw [if_pos hl, gE_at f he hn] at h1
  exact h1
theorem Wl_le {D : DataW Unit} (f : List Int → Nat) (left : Lit → Bool) : Wl f left D ≤ W f D := by
  unfold Wl W wt wtL
  refine ssum_le _ _ _ fun p _ => ?_
  refine Nat.mul_le_mul_right _ ?_
  show (if left p.1 = true then gE f p.1 else 0) ≤ gE f p.1
  split
  · exact Nat.le_refl _
  · exact Nat.zero_le _
end Go.Proofs.Ytbgkhehopldilaa
