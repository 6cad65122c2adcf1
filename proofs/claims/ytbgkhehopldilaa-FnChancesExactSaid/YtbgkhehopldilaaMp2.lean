/- An entry of such a map that is added to; how a loop over such a map comes to its entries. -/
import Derived.Test.YtbgkhehopldilaaCe7
import Derived.WideKeyEntry
namespace Go.Proofs.Ytbgkhehopldilaa
open Go Go.RowKit Go.Maps Go.WideElems
open Go.ChangeMaps (setBlock heap_setBlock_same heap_setBlock_other modify_eq_set)

/-- Block b is a map from ends to numbers. -/
abbrev OE (w : World) (b n : Nat) (D : DataW Unit) : Prop := w.ownsMap Try.prog 60 (plainElem Try.prog 3) b n D
theorem zeroEl (w : World) : (zeroValue 3).run Try.prog w = .ok (.int .i64 0) w := by kernel_rfl
theorem lawE : WideMaps.KeyLaw Try.prog 60 := deep_law_laid laidOutC (m := 2) (by omega) rowEnds (by kernel_rfl) wideEnds
theorem OE.tight {w : World} {b n : Nat} {D : DataW Unit} (h : OE w b n D) : OE w b (Maps.size D) D := by
  obtain ⟨es, clock, hb, F, _, rfl⟩ := h
  refine ⟨es, clock, hb, F, ?_, rfl⟩
  rw [size_eq, length_sorted]
  simp
theorem at0_of {n : Nat} {D : DataW Unit} (h : Gm n D) {kl : Lit} {c : Int} (ha : D.atKey kl (.lit (.int .i64 0)) = .lit (.int .i64 c)) : c = (at0 D kl : Int) := by
  unfold at0
  have e : nd 0 = .lit (.int .i64 0) := rfl
  rw [e, ha]
  rcases hk : Maps.has D kl with _ | _
  · rw [atKey_of_not_has hk] at ha
    injection ha with ha
    injection ha with _ ha
    subst ha
    rfl
  · obtain ⟨q, m, _, _, h3, _⟩ := h.at hk
    rw [h3] at ha
    injection ha with ha
    injection ha with _ ha
    subst ha
    simp [valN]
theorem setBlock_twice (w : World) (b : Nat) (x y : Obj) : setBlock (setBlock w b x) b y = setBlock w b y := by
  unfold setBlock
  simp
theorem grown_setBlock (w : World) (b : Nat) (x : Obj) {es : Array MapEntry} {cl : Nat} (hb : w.heap[b]? = some (.map es cl)) : w.grownBy (setBlock w b x) (some b) :=
  ⟨rfl, rfl, rfl, by simp [setBlock], fun i _ hi => heap_setBlock_other hb _ (fun e => hi (by rw [e]))⟩

set_option maxRecDepth 100000 in
/-- what 'm[e] += c' comes to, piece by piece -/
theorem entry_facts {n nb : Nat} {D : DataW Unit} {w : World} {b : Nat} (hown : OE w b nb D) (hG : Gm n D) (hn : n ≤ 6) (hroom : nb < maxLen) {e : List Int} (he : OKE n e) {m : Nat} (hm : at0 D (eL e) = m) (c : Nat) (hsum : m + c ≤ 4000000000000000000) :
    ∃ (v0 : Value) (st : Nat) (w1 w2 : World),
      (Instr.mapEntry 58 (.map (some b)) (.agg #[.int .i64 (gi e 0), .int .i64 (gi e 1), .int .i64 (gi e 2), .int .i64 (gi e 3), .int .i64 (gi e 4), .int .i64 (gi e 5)])).run Try.prog w = .ok (.tuple #[v0, .int .i64 (st : Int)]) w1 ∧
      (Instr.lookup 58 (.map (some b)) (.agg #[.int .i64 (gi e 0), .int .i64 (gi e 1), .int .i64 (gi e 2), .int .i64 (gi e 3), .int .i64 (gi e 4), .int .i64 (gi e 5)]) false).run Try.prog w = .ok (.int .i64 (m : Int)) w ∧
      (Instr.lookup 58 (.map (some b)) (.agg #[.int .i64 (gi e 0), .int .i64 (gi e 1), .int .i64 (gi e 2), .int .i64 (gi e 3), .int .i64 (gi e 4), .int .i64 (gi e 5)]) false).run Try.prog w1 = .ok (.int .i64 (m : Int)) w1 ∧
      (Instr.entryStore 58 (.map (some b)) (.int .i64 (st : Int)) (.int .i64 ((m : Int) + (c : Int)))).run Try.prog w1 = .ok () w2 ∧
      w.grownBy w1 (some b) ∧ OE w2 b (nb + 1) (addTo D (eL e) c) ∧ w.grownBy w2 (some b) := by
  have hkey := key_of he hn
  have hz : ∀ u : World, (zeroValue 3).run Try.prog u = .ok (.int .i64 0) u := zeroEl
  have ht := Try.underlying58
  have hint := Try.underlying3
  obtain ⟨c1, hl1, ha1, _⟩ := hown.lookup_int keyE ht hint (hz w) hkey
  have e1 : c1 = (m : Int) := by rw [at0_of hG ha1, hm]
  subst e1
  have hwf : (Lit.int .i64 ((m : Int) + (c : Int))).wf = true := wf64 (by omega) (by omega)
  obtain ⟨es, clock, hb, F, hs, hD⟩ := hown
  obtain ⟨v0, st, es1, clock1, hE, _, hS⟩ := entry_then_store lawE ht hz hb F hkey
  have hb1 : (setBlock w b (.map es1 clock1)).heap[b]? = some (.map es1 clock1) := heap_setBlock_same hb _
  obtain ⟨es', clock', hS1, hU1⟩ := hS _ (.int .i64 ((m : Int) + (c : Int))) hb1
  rw [setBlock_twice] at hS1
  have hown : OE w b nb D := ⟨es, clock, hb, F, hs, hD⟩
  obtain ⟨w2, hU2, ho2, hg2⟩ := hown.update keyE ht hroom hkey (plainElem_int hint hwf)
  rw [hU1] at hU2
  have e2 : setBlock w b (.map es' clock') = w2 := by injection hU2
  rw [e2] at hS1
  have hadd : addTo D (eL e) c = D.put (eL e) (.lit (.int .i64 ((m : Int) + (c : Int)))) := by
    unfold addTo nd; rw [hm]; simp
  refine ⟨v0, st, _, w2, hE, hl1, ?_, hS1, grown_setBlock w b _ hb, by rw [hadd]; exact ho2, hg2⟩
  have K := keyE
  rcases K.find w hkey es.toList F.keys with ⟨h1, h2⟩ | ⟨j, e0, h1, h2, h3⟩
  · have hE' : (Instr.mapEntry 58 (.map (some b)) (.agg #[.int .i64 (gi e 0), .int .i64 (gi e 1), .int .i64 (gi e 2), .int .i64 (gi e 3), .int .i64 (gi e 4), .int .i64 (gi e 5)])).run Try.prog w = .ok (.tuple #[.int .i64 0, goInt clock]) (setBlock w b (.map (es.push ⟨.agg #[.int .i64 (gi e 0), .int .i64 (gi e 1), .int .i64 (gi e 2), .int .i64 (gi e 3), .int .i64 (gi e 4), .int .i64 (gi e 5)], .int .i64 0, clock⟩) (clock + 1))) := by
      simp [Instr.mapEntry, run_underlying ht, MapKept.run_getObj_map hb, K.check w false hkey, h1, hz, MapKept.run_setObj_map _ hb, Result.andThen, setBlock]
    have hU' : (Instr.mapUpdate 58 (.map (some b)) (.agg #[.int .i64 (gi e 0), .int .i64 (gi e 1), .int .i64 (gi e 2), .int .i64 (gi e 3), .int .i64 (gi e 4), .int .i64 (gi e 5)]) (.int .i64 0)).run Try.prog w = .ok () (setBlock w b (.map (es.push ⟨.agg #[.int .i64 (gi e 0), .int .i64 (gi e 1), .int .i64 (gi e 2), .int .i64 (gi e 3), .int .i64 (gi e 4), .int .i64 (gi e 5)], .int .i64 0, clock⟩) (clock + 1))) := by
      simp [Instr.mapUpdate, run_underlying ht, MapKept.run_getObj_map hb, K.check w false hkey, h1, MapKept.run_setObj_map _ hb, Result.andThen, setBlock]
    have e3 : setBlock w b (.map es1 clock1) = setBlock w b (.map (es.push ⟨.agg #[.int .i64 (gi e 0), .int .i64 (gi e 1), .int .i64 (gi e 2), .int .i64 (gi e 3), .int .i64 (gi e 4), .int .i64 (gi e 5)], .int .i64 0, clock⟩) (clock + 1)) := by
      rw [hE] at hE'
      injection hE'
    obtain ⟨w3, hU3, ho3, _⟩ := hown.update keyE ht hroom hkey (plainElem_int hint (a := 0) (by decide))
    rw [hU'] at hU3
    have e4 : setBlock w b (.map (es.push ⟨.agg #[.int .i64 (gi e 0), .int .i64 (gi e 1), .int .i64 (gi e 2), .int .i64 (gi e 3), .int .i64 (gi e 4), .int .i64 (gi e 5)], .int .i64 0, clock⟩) (clock + 1)) = w3 := by injection hU3
    rw [e3, e4]
    obtain ⟨c3, hl3, ha3, _⟩ := ho3.lookup_int keyE ht hint (hz w3) hkey
    rw [atKey_put_same hown.isMap (eL_isKey e)] at ha3
    have e5 : (0 : Int) = c3 := by injection ha3 with ha3; injection ha3
    have hl0 : (Instr.lookup 58 (.map (some b)) (.agg #[.int .i64 (gi e 0), .int .i64 (gi e 1), .int .i64 (gi e 2), .int .i64 (gi e 3), .int .i64 (gi e 4), .int .i64 (gi e 5)]) false).run Try.prog w = .ok (.int .i64 0) w := by
      simp [Instr.lookup, run_underlying ht, MapKept.run_getObj_map hb, K.check w _ hkey, h1, hz, Result.andThen]
    rw [hl1] at hl0
    have e6 : ((m : Nat) : Int) = 0 := by injection hl0 with h4 _; injection h4
    rw [e6, e5]
    exact hl3
  · have hj : es[j]? = some e0 := by simpa using h2
    have hsame : es.modify j (fun x => { x with key := (.agg #[.int .i64 (gi e 0), .int .i64 (gi e 1), .int .i64 (gi e 2), .int .i64 (gi e 3), .int .i64 (gi e 4), .int .i64 (gi e 5)]) }) = es := by
      apply Array.ext'
      rw [Array.toList_modify, modify_eq_set _ _ _ _ h2]
      have : ({ e0 with key := (.agg #[.int .i64 (gi e 0), .int .i64 (gi e 1), .int .i64 (gi e 2), .int .i64 (gi e 3), .int .i64 (gi e 4), .int .i64 (gi e 5)]) } : MapEntry) = e0 := by rw [← h3]
      rw [this]
      exact set_self _ _ _ h2
    have hE' : (Instr.mapEntry 58 (.map (some b)) (.agg #[.int .i64 (gi e 0), .int .i64 (gi e 1), .int .i64 (gi e 2), .int .i64 (gi e 3), .int .i64 (gi e 4), .int .i64 (gi e 5)])).run Try.prog w = .ok (.tuple #[e0.val, goInt e0.born]) (setBlock w b (.map es clock)) := by
      simp [Instr.mapEntry, run_underlying ht, MapKept.run_getObj_map hb, K.check w false hkey, h1, hj, h3, K.stays w hkey, hsame, MapKept.run_setObj_map _ hb, Result.andThen, setBlock]
    have e3 : setBlock w b (.map es1 clock1) = setBlock w b (.map es clock) := by
      rw [hE] at hE'
      injection hE'
    have ho3 : OE (setBlock w b (.map es clock)) b nb D := ⟨es, clock, heap_setBlock_same hb _, F, hs, hD⟩
    rw [e3]
    obtain ⟨c3, hl3, ha3, _⟩ := ho3.lookup_int keyE ht hint (hz _) hkey
    have e4 : c3 = (m : Int) := by rw [at0_of hG ha3, hm]
    rw [← e4]
    exact hl3

section
variable {ops : Array Oper} {rest : List Oper} {o : Oper} {a : Act} {Q : Exit → Act → World → Prop}
/-- a map literal's entry -/
theorem wpList_insert_own (w : World)
    (hg : o.guard = none) (m x v : Operand) (t : TypeId) (hop : o.op = Op.insert t m x v)
    (k e : TypeId) (K : Keyed Try.prog k) (ht : Try.prog.underlying t = some (.map k e)) (R : Value → Option (DataW Unit × List MemPlace)) (b n : Nat) (D : DataW Unit)
    (hm : a.eval m = .map (some b)) (hown : w.ownsMap Try.prog k R b n D) (hn : n < maxLen) (key val : Value) (kl : Lit) (hx : a.eval x = key) (hv : a.eval v = val) (hkey : keyOf Try.prog k key = some kl)
    (d : DataW Unit) (ps : List MemPlace) (hval : R val = some (d, ps))
    (hK : ∀ w', w'.ownsMap Try.prog k R b (n + 1) (D.put kl d) → w.grownBy w' (some b) → wpList Try.prog ops Q rest (a.put o.dst undef) w') :
    wpList Try.prog ops Q (o :: rest) a w := by
  refine wpList_plain hg fun K' hK' => ?_
  obtain ⟨w', hrun, r1, r2⟩ := hown.update K ht hn hkey hval
  unfold Oper.wp
  simp [execOp, hop, hm, hx, hv, hrun, Result.andThen]
  exact hK' _ _ (hK w' r1 r2)
set_option maxRecDepth 100000 in
/-- the step of a loop over a map of such a kind -/
theorem wpList_next_OE (w : World) (hg : o.guard = none) (it : Operand) (hop : o.op = Op.next it false) (b r n n0 : Nat) (D : DataW Unit) (left : Lit → Bool) (cnt : Nat)
    (hit : a.eval it = .pointer (some ⟨r, 0, none⟩)) (h : w.ranges Try.prog 60 (plainElem Try.prog 3) b r n D left cnt) (hG : Gm n0 D) (hn : n0 ≤ 6) (hl : ∀ kl, left kl = true → Maps.has D kl = true)
    (hDone : (∀ kl, left kl = false) → wpList Try.prog ops Q rest (a.put o.dst (.tuple #[.bool false])) w)
    (hMore : ∀ (e : List Int) (c : Nat) (w' : World) (cnt' : Nat), OKE n0 e → 0 < c → at0 D (eL e) = c → left (eL e) = true → w'.ranges Try.prog 60 (plainElem Try.prog 3) b r n D (fun z => left z && !z.sameKey (eL e)) cnt' → cnt' < cnt →
      w.grownBy w' (some r) → w'.heap.size = w.heap.size → (Instr.entry (.pointer (some ⟨r, 0, none⟩))).run Try.prog w' = .ok (.tuple #[.agg #[.int .i64 (gi e 0), .int .i64 (gi e 1), .int .i64 (gi e 2), .int .i64 (gi e 3), .int .i64 (gi e 4), .int .i64 (gi e 5)], .int .i64 (c : Int)]) w' →
      wpList Try.prog ops Q rest (a.put o.dst (.tuple #[.bool true, .agg #[.int .i64 (gi e 0), .int .i64 (gi e 1), .int .i64 (gi e 2), .int .i64 (gi e 3), .int .i64 (gi e 4), .int .i64 (gi e 5)], .int .i64 (c : Int)])) w') :
    wpList Try.prog ops Q (o :: rest) a w := by
  refine wpList_next_ranges w hg it hop 60 keyE (plainElem Try.prog 3) (fun v : Value => v) (fun c : Int => Value.int .i64 c)
    (fun key kl _ => ⟨key, rfl⟩)
    (fun v y hv => by obtain ⟨c, rfl, _⟩ := plainElem_int_inv Try.underlying3 hv; exact ⟨c, rfl⟩) b r n D left cnt hit h (fun _ hl0 => hDone hl0) ?_
  intro x c kl y w' cnt' hkey hlk hv hat hrg hlt hgr hsz hen
  obtain ⟨e, m, he, hkl, hat2, hm⟩ := hG.at (hl kl hlk)
  obtain ⟨c', ec, rfl, _⟩ := plainElem_int_inv Try.underlying3 hv
  injection ec with _ ec
  subst ec
  have e1 := (hat (nd 0)).symm.trans (hat2 (nd 0))
  injection e1 with e1
  injection e1 with _ e1
  subst e1
  subst hkl
  have e2 : x = .agg #[.int .i64 (gi e 0), .int .i64 (gi e 1), .int .i64 (gi e 2), .int .i64 (gi e 3), .int .i64 (gi e 4), .int .i64 (gi e 5)] := keyE.inj hkey (key_of he hn)
  subst e2
  exact hMore e m w' cnt' he hm (by unfold at0; rw [hat2, valN_nd]) hlk hrg hlt hgr hsz hen
end
theorem left_has {D : DataW Unit} {left : Lit → Bool} (hl : ∀ kl, left kl = true → Maps.has D kl = true) (e : List Int) : ∀ kl, (left kl && !kl.sameKey (eL e)) = true → Maps.has D kl = true := by
  intro kl h
  rw [Bool.and_eq_true] at h
  exact hl kl h.1
end Go.Proofs.Ytbgkhehopldilaa
