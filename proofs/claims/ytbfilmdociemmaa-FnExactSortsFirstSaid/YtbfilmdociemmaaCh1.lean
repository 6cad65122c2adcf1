/- Channels in one goroutine, for the walk of statements: a region whose operations are taken one by one, among them a send, a receive, a select of two receives of which one or both can proceed. -/
import Derived.Conc.LoneCalls
import Derived.Orders
namespace Go.Proofs.Ytbfilmdociemmaa
open Go Go.RowKit Go.Conc

/-- a region's operations, taken one by one, come to what is asked -/
def OpsTo (P : Program) (ops : Array Oper) (Q : Exit → Act → World → Prop) (l : List Nat) (a : Act) (w : World) : Prop :=
  ∀ (b : Frame) (k : List Item) (cs : List Frame), ∃ e a' w', Q e a' w' ∧ Arrives P (lone (b.at a (.inRegion ops l :: k)) cs w) b k cs e a' w'

section
variable {P : Program} {ops : Array Oper} {Q : Exit → Act → World → Prop} {a : Act} {w w1 : World} {i : Nat} {l : List Nat} {o : Oper} {v : Value}

theorem opsTo_rest (h : wpOps P ops Q l a w) : OpsTo P ops Q l a w := wp_ops l a w h
theorem opsTo_end (h : Q .normal a w) : OpsTo P ops Q [] a w := opsTo_rest h
theorem wp_region_to {id : Nat} (h : OpsTo P ops Q (List.range ops.size) a w) : (Code.region id ops false).wp P Q a w :=
  fun b k cs => let ⟨e, a', w', q, r⟩ := h b k cs; ⟨e, a', w', q, .of_steps (.one step_region) r⟩
theorem wp_region_to_draw {id : Nat} (h : ∀ t, OpsTo P ops Q (Region.schedule (P.follows .mixedOrders) ops t) a { w with drawn := w.drawn + 1 }) : (Code.region id ops true).wp P Q a w :=
  fun b k cs => let ⟨e, a', w', q, r⟩ := h _ b k cs; ⟨e, a', w', q, .of_steps (.one step_region_draw) r⟩

theorem opsTo_one {a1 : Act} (hs : ∀ (b : Frame) (k : List Item) (cs : List Frame), step P (lone (b.at a (.inRegion ops (i :: l) :: k)) cs w) = .next (lone (b.at a1 (.inRegion ops l :: k)) cs w1))
    (h : OpsTo P ops Q l a1 w1) : OpsTo P ops Q (i :: l) a w :=
  fun b k cs => let ⟨e, a', w', q, r⟩ := h b k cs; ⟨e, a', w', q, .of_steps (.one (hs b k cs)) r⟩

theorem fin_at (ho : ops[i]? = some o) (b : Frame) (k : List Item) : (b.at a (.inRegion ops (i :: l) :: k)).finish v = b.at (a.put o.dst v) (.inRegion ops l :: k) := by
  rw [Frame.finish_at, ho]; rfl

/-- an operation that yields a value -/
theorem opsTo_value (ho : ops[i]? = some o) (hw : Region.wanted o (yielded ops a.tmps) = true) (hr : (execOp a.eval o).run P w = .ok (.value v) w1)
    (h : OpsTo P ops Q l (a.put o.dst v) w1) : OpsTo P ops Q (i :: l) a w :=
  opsTo_one (fun b k cs => step_lone_go (by rw [stepG_op ho hw, ← fin_at ho]; simp [stepG.apply, hr])) h

/-- .. in the walk's style: what it yields is reckoned -/
theorem opsTo_oper (ho : ops[i]? = some o) (hw : Region.wanted o (yielded ops a.tmps) = true)
    (h : ∀ K : Result Next → Prop, (∀ v w1, OpsTo P ops Q l (a.put o.dst v) w1 → K (.ok (.value v) w1)) → (∀ w1, OpsTo P ops Q l (a.put o.dst undef) w1 → K (.ok .skip w1)) → K ((execOp a.eval o).run P w)) : OpsTo P ops Q (i :: l) a w := by
  refine h (fun r => (execOp a.eval o).run P w = r → OpsTo P ops Q (i :: l) a w) ?_ ?_ rfl
  · intro v w1 hl hr
    exact opsTo_value ho hw hr hl
  · intro w1 hl hr
    exact opsTo_one (fun b k cs => step_lone_go (by rw [stepG_op ho hw, ← fin_at ho]; simp [stepG.apply, hr])) hl

/-- an operation that is a communication: it is handed up to the machine -/
theorem stepG_comm_any {cases : Array CommCase} {blocking : Bool} {shape : CommShape} (ho : ops[i]? = some o) (hw : Region.wanted o (yielded ops a.tmps) = true)
    (hr : (execOp a.eval o).run P w = .ok (.comm cases blocking shape) w1) (b : Frame) (k : List Item) (cs : List Frame) :
    ∃ es, stepG P true (G (b.at a (.inRegion ops (i :: l) :: k)) cs) w = .comm (G (b.at a (.inRegion ops (i :: l) :: k)) cs) cases blocking shape w1 es := by
  rw [stepG_oper ho hw]
  simp [stepG.apply, hr, G, GStep.after]

variable {c d cap cap2 s r s2 r2 : Nat} {buf buf2 : Array Value} {z z2 : Value} {tm tm2 closed closed2 : Bool}

/-- a send into a buffer with room -/
theorem opsTo_send (ho : ops[i]? = some o) (hw : Region.wanted o (yielded ops a.tmps) = true) (hr : (execOp a.eval o).run P w = .ok (.comm #[scase c v z] true .send) w1)
    (hc : w1.heap[c]? = some (.chan cap buf false s r tm)) (hroom : buf.size < cap)
    (h : OpsTo P ops Q l (a.put o.dst undef) (w1.setChan c cap (buf.push v) false (s + 1) r tm)) : OpsTo P ops Q (i :: l) a w :=
  opsTo_one (fun b k cs => by
    obtain ⟨es, hg⟩ := stepG_comm_any (l := l) ho hw hr b k cs
    have := step_lone_send_room hg hc hroom
    rw [fin_at ho] at this
    exact this) h

/-- a receive from a buffer that holds something -/
theorem opsTo_recv (ok : Bool) (ho : ops[i]? = some o) (hw : Region.wanted o (yielded ops a.tmps) = true) (hr : (execOp a.eval o).run P w = .ok (.comm #[rcase c z] true (.recv ok)) w1)
    (hc : w1.heap[c]? = some (.chan cap buf closed s r tm)) (hsome : 0 < buf.size)
    (h : OpsTo P ops Q l (a.put o.dst (got ok (buf.getD 0 undef) true)) (w1.setChan c cap (buf.extract 1 buf.size) closed s (r + 1) tm)) : OpsTo P ops Q (i :: l) a w :=
  opsTo_one (fun b k cs => by
    obtain ⟨es, hg⟩ := stepG_comm_any (l := l) ho hw hr b k cs
    have := step_lone_recv_buf ok hg hc hsome
    rw [fin_at ho] at this
    exact this) h

theorem sel_none (e : Bool) : partners #[{ (default : Goroutine) with status := .finished }] c e = [] := partners_alone e

/-- two receives, of which the first alone can proceed -/
theorem step_sel_fst {fr : Frame} {cs : List Frame} {es : Array Event} (h : stepG P true (G fr cs) w = .comm (G fr cs) #[rcase c z, rcase d z2] true .select w1 es)
    (hc : w1.heap[c]? = some (.chan cap buf closed s r tm)) (hsome : 0 < buf.size) (hd : w1.heap[d]? = some (.chan cap2 #[] false s2 r2 tm2)) :
    step P (solo (G fr cs) w) = .next (solo (G (fr.finish (.tuple #[goInt 0, .bool true, buf.getD 0 undef, z2])) cs) (w1.setChan c cap (buf.extract 1 buf.size) closed s (r + 1) tm)) := by
  have hp := sel_none (c := c) true
  have hp2 := sel_none (c := d) true
  rw [step, stepT_solo rfl]
  simp [runT, solo, G, Array.swapAt!, Array.swapAt, h, GStep.es, communicate, ways, rcase, hc, hd, hp, hp2, hsome, choose, Sem.run, Question.forced, bind, Sem.bind, pure, Goroutine.finishComm, commResult, World.setChan, List.zipIdx_cons] at h ⊢

/-- two receives, of which the second alone can proceed -/
theorem step_sel_snd {fr : Frame} {cs : List Frame} {es : Array Event} (h : stepG P true (G fr cs) w = .comm (G fr cs) #[rcase c z, rcase d z2] true .select w1 es)
    (hc : w1.heap[c]? = some (.chan cap #[] false s r tm)) (hd : w1.heap[d]? = some (.chan cap2 buf2 closed2 s2 r2 tm2)) (hsome : 0 < buf2.size) :
    step P (solo (G fr cs) w) = .next (solo (G (fr.finish (.tuple #[goInt 1, .bool true, z, buf2.getD 0 undef])) cs) (w1.setChan d cap2 (buf2.extract 1 buf2.size) closed2 s2 (r2 + 1) tm2)) := by
  have hp := sel_none (c := c) true
  have hp2 := sel_none (c := d) true
  rw [step, stepT_solo rfl]
  simp [runT, solo, G, Array.swapAt!, Array.swapAt, h, GStep.es, communicate, ways, rcase, hc, hd, hp, hp2, hsome, choose, Sem.run, Question.forced, bind, Sem.bind, pure, Goroutine.finishComm, commResult, World.setChan, List.zipIdx_cons] at h ⊢

/-- two receives, both of which can proceed: the tape chooses -/
theorem step_sel_both {fr : Frame} {cs : List Frame} {es : Array Event} (h : stepG P true (G fr cs) w = .comm (G fr cs) #[rcase c z, rcase d z2] true .select w1 es)
    (hc : w1.heap[c]? = some (.chan cap buf closed s r tm)) (hsome : 0 < buf.size) (hd : w1.heap[d]? = some (.chan cap2 buf2 closed2 s2 r2 tm2)) (hsome2 : 0 < buf2.size) :
    step P (solo (G fr cs) w) = .next (solo (G (fr.finish (.tuple #[goInt 0, .bool true, buf.getD 0 undef, z2])) cs) (w1.drew.setChan c cap (buf.extract 1 buf.size) closed s (r + 1) tm)) ∨
    step P (solo (G fr cs) w) = .next (solo (G (fr.finish (.tuple #[goInt 1, .bool true, z, buf2.getD 0 undef])) cs) (w1.drew.setChan d cap2 (buf2.extract 1 buf2.size) closed2 s2 (r2 + 1) tm2)) := by
  have hp := sel_none (c := c) true
  have hp2 := sel_none (c := d) true
  have hc2 : w1.drew.heap[c]? = some (.chan cap buf closed s r tm) := hc
  have hd2 : w1.drew.heap[d]? = some (.chan cap2 buf2 closed2 s2 r2 tm2) := hd
  have ht : w1.tape w1.drawn (.select 2) % 2 = 0 ∨ w1.tape w1.drawn (.select 2) % 2 = 1 := by omega
  rcases ht with ht | ht
  · left
    rw [step, stepT_solo rfl]
    simp [runT, solo, G, Array.swapAt!, Array.swapAt, h, GStep.es, communicate, ways, rcase, hc, hd, hc2, hp, hsome, hsome2, choose, Sem.run, Question.forced, Question.cut, ht, bind, Sem.bind, pure, Goroutine.finishComm, commResult, World.setChan, List.zipIdx_cons] at h ⊢
  · right
    rw [step, stepT_solo rfl]
    simp [runT, solo, G, Array.swapAt!, Array.swapAt, h, GStep.es, communicate, ways, rcase, hc, hd, hd2, hp2, hsome, hsome2, choose, Sem.run, Question.forced, Question.cut, ht, bind, Sem.bind, pure, Goroutine.finishComm, commResult, World.setChan, List.zipIdx_cons] at h ⊢

theorem opsTo_sel_fst (ho : ops[i]? = some o) (hw : Region.wanted o (yielded ops a.tmps) = true) (hr : (execOp a.eval o).run P w = .ok (.comm #[rcase c z, rcase d z2] true .select) w1)
    (hc : w1.heap[c]? = some (.chan cap buf closed s r tm)) (hsome : 0 < buf.size) (hd : w1.heap[d]? = some (.chan cap2 #[] false s2 r2 tm2))
    (h : OpsTo P ops Q l (a.put o.dst (.tuple #[goInt 0, .bool true, buf.getD 0 undef, z2])) (w1.setChan c cap (buf.extract 1 buf.size) closed s (r + 1) tm)) : OpsTo P ops Q (i :: l) a w :=
  opsTo_one (fun b k cs => by
    obtain ⟨es, hg⟩ := stepG_comm_any (l := l) ho hw hr b k cs
    have := step_sel_fst hg hc hsome hd
    rw [fin_at ho] at this
    exact this) h
theorem opsTo_sel_snd (ho : ops[i]? = some o) (hw : Region.wanted o (yielded ops a.tmps) = true) (hr : (execOp a.eval o).run P w = .ok (.comm #[rcase c z, rcase d z2] true .select) w1)
    (hc : w1.heap[c]? = some (.chan cap #[] false s r tm)) (hd : w1.heap[d]? = some (.chan cap2 buf2 closed2 s2 r2 tm2)) (hsome : 0 < buf2.size)
    (h : OpsTo P ops Q l (a.put o.dst (.tuple #[goInt 1, .bool true, z, buf2.getD 0 undef])) (w1.setChan d cap2 (buf2.extract 1 buf2.size) closed2 s2 (r2 + 1) tm2)) : OpsTo P ops Q (i :: l) a w :=
  opsTo_one (fun b k cs => by
    obtain ⟨es, hg⟩ := stepG_comm_any (l := l) ho hw hr b k cs
    have := step_sel_snd hg hc hd hsome
    rw [fin_at ho] at this
    exact this) h
theorem opsTo_sel_both (ho : ops[i]? = some o) (hw : Region.wanted o (yielded ops a.tmps) = true) (hr : (execOp a.eval o).run P w = .ok (.comm #[rcase c z, rcase d z2] true .select) w1)
    (hc : w1.heap[c]? = some (.chan cap buf closed s r tm)) (hsome : 0 < buf.size) (hd : w1.heap[d]? = some (.chan cap2 buf2 closed2 s2 r2 tm2)) (hsome2 : 0 < buf2.size)
    (h1 : OpsTo P ops Q l (a.put o.dst (.tuple #[goInt 0, .bool true, buf.getD 0 undef, z2])) (w1.drew.setChan c cap (buf.extract 1 buf.size) closed s (r + 1) tm))
    (h2 : OpsTo P ops Q l (a.put o.dst (.tuple #[goInt 1, .bool true, z, buf2.getD 0 undef])) (w1.drew.setChan d cap2 (buf2.extract 1 buf2.size) closed2 s2 (r2 + 1) tm2)) : OpsTo P ops Q (i :: l) a w := by
  intro b k cs
  obtain ⟨es, hg⟩ := stepG_comm_any (l := l) ho hw hr b k cs
  rcases step_sel_both hg hc hsome hd hsome2 with this | this
  · rw [fin_at ho] at this
    obtain ⟨e, a', w', q, r⟩ := h1 b k cs
    exact ⟨e, a', w', q, .of_steps (.one this) r⟩
  · rw [fin_at ho] at this
    obtain ⟨e, a', w', q, r⟩ := h2 b k cs
    exact ⟨e, a', w', q, .of_steps (.one this) r⟩

/-! regions that draw their order -/
/-- one operation, whatever comes behind it -/
def StepTo (P : Program) (ops : Array Oper) (Q : Exit → Act → World → Prop) (i : Nat) (K : Act → World → Prop) (a : Act) (w : World) : Prop :=
  ∀ l, (∀ a' w', K a' w' → OpsTo P ops Q l a' w') → OpsTo P ops Q (i :: l) a w
/-- the operations that are still to come, in whatever order is drawn -/
def AnyTo (P : Program) (md : Region.Mode) (ops : Array Oper) (Q : Exit → Act → World → Prop) (fuel : Nat) (listed : Array Bool) (a : Act) (w : World) : Prop :=
  ∀ t, OpsTo P ops Q (Region.linearise.go md ops fuel t listed []) a w

variable {K : Act → World → Prop} {md : Region.Mode} {fuel : Nat} {listed : Array Bool}
theorem stepTo_value (ho : ops[i]? = some o) (hw : Region.wanted o (yielded ops a.tmps) = true) (hr : (execOp a.eval o).run P w = .ok (.value v) w1) (h : K (a.put o.dst v) w1) : StepTo P ops Q i K a w :=
  fun _ hk => opsTo_value ho hw hr (hk _ _ h)
theorem stepTo_recv (ok : Bool) (ho : ops[i]? = some o) (hw : Region.wanted o (yielded ops a.tmps) = true) (hr : (execOp a.eval o).run P w = .ok (.comm #[rcase c z] true (.recv ok)) w1)
    (hc : w1.heap[c]? = some (.chan cap buf closed s r tm)) (hsome : 0 < buf.size)
    (h : K (a.put o.dst (got ok (buf.getD 0 undef) true)) (w1.setChan c cap (buf.extract 1 buf.size) closed s (r + 1) tm)) : StepTo P ops Q i K a w :=
  fun _ hk => opsTo_recv ok ho hw hr hc hsome (hk _ _ h)
theorem stepTo_send (ho : ops[i]? = some o) (hw : Region.wanted o (yielded ops a.tmps) = true) (hr : (execOp a.eval o).run P w = .ok (.comm #[scase c v z] true .send) w1)
    (hc : w1.heap[c]? = some (.chan cap buf false s r tm)) (hroom : buf.size < cap)
    (h : K (a.put o.dst undef) (w1.setChan c cap (buf.push v) false (s + 1) r tm)) : StepTo P ops Q i K a w :=
  fun _ hk => opsTo_send ho hw hr hc hroom (hk _ _ h)

theorem stepTo_oper (ho : ops[i]? = some o) (hw : Region.wanted o (yielded ops a.tmps) = true)
    (h : ∀ K' : Result Next → Prop, (∀ v w1, K (a.put o.dst v) w1 → K' (.ok (.value v) w1)) → (∀ w1, K (a.put o.dst undef) w1 → K' (.ok .skip w1)) → K' ((execOp a.eval o).run P w)) : StepTo P ops Q i K a w := by
  intro l hl
  refine opsTo_oper ho hw fun K' h1 h2 => ?_
  exact h K' (fun v w1 hk => h1 v w1 (hl _ _ hk)) (fun w1 hk => h2 w1 (hl _ _ hk))
theorem anyTo_end (hr : Region.ready md ops listed = []) (h : Q .normal a w) : AnyTo P md ops Q fuel listed a w := fun t => opsTo_rest (wpAny_sound fuel t listed a w (wpAny_done hr h _))
theorem anyTo_rest (h : wpAny P md ops Q fuel listed a w) : AnyTo P md ops Q fuel listed a w := fun t => opsTo_rest (wpAny_sound fuel t listed a w h)
theorem anyTo_step {rs : List Nat} (hr : Region.ready md ops listed = rs) (hne : rs ≠ []) (h : ∀ i ∈ rs, StepTo P ops Q i (AnyTo P md ops Q fuel (listed.setIfInBounds i true)) a w) :
    AnyTo P md ops Q (fuel + 1) listed a w := by
  subst hr
  intro t
  have hlt : t % (Region.ready md ops listed).length < (Region.ready md ops listed).length := Nat.mod_lt _ (List.length_pos_iff.2 hne)
  have hi := List.getElem?_eq_getElem hlt
  simp only [Region.linearise.go]
  change OpsTo P ops Q (match (Region.ready md ops listed)[t % (Region.ready md ops listed).length]? with
    | some i => Region.linearise.go md ops fuel (t / (Region.ready md ops listed).length) (listed.setIfInBounds i true) [i]
    | none => [].reverse) a w
  rw [hi]
  simp only []
  rw [linearise_go_acc, List.reverse_singleton, List.singleton_append]
  exact h _ (List.getElem_mem hlt) _ (fun a' w' hk => hk _)
theorem wp_region_any_to {id : Nat} (hm : P.follows .mixedOrders = true) (h : AnyTo P .any ops Q ops.size (Array.replicate ops.size false) a w.drew) : (Code.region id ops true).wp P Q a w :=
  wp_region_to_draw fun t => by
    simp only [Region.schedule, hm, Bool.true_or, if_true]
    exact h t
end
end Go.Proofs.Ytbfilmdociemmaa
