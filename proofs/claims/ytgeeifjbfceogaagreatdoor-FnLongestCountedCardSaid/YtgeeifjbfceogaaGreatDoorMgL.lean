/- How the numbers of ways are kept level by level. The program counts the beginnings of the least ladders, level by level. The program's CountLeast. -/
import Derived.Test.YtgeeifjbfceogaaGreatDoorMgK
import Derived.Test.YtgeeifjbfceogaaGreatDoorDs2
namespace Go.Proofs.YtgeeifjbfceogaaGreatDoor
open Go Go.RowKit Go.Maps

def begsK (p : List Int) (k : Nat) : List Int := (List.range k).map fun (j : Nat) => (np j p : Int)
theorem begsK_succ (p : List Int) (k : Nat) : begsK p (k + 1) = begsK p k ++ [(np k p : Int)] := by simp [begsK, List.range_succ]
theorem begsK_all (p : List Int) : begsK p (ninv p + 1) = begs p := rfl

def Lev (p : List Int) (n k : Nat) (D : DataW Unit) : Prop := Gd (OKp n) D ∧ ∀ j, wt (gk (np j)) D = np (k + j) p
def Mid (p : List Int) (n k : Nat) (D1 D2 : DataW Unit) (t : Nat) : Prop :=
  Gd (OKp n) D1 ∧ Gd (OKp n) D2 ∧ (∀ j, wt (gk (np (j + 1))) D1 + wt (gk (np j)) D2 = np (k + 1 + j) p) ∧ t + wt (gk (np 0)) D1 = np k p
theorem Mid.start {p : List Int} {n k : Nat} {D : DataW Unit} (h : Lev p n k D) : Mid p n k D (.map []) 0 :=
  ⟨h.1, Gd.empty _, fun j => by rw [h.2, wt_nil, show k + 1 + j = k + (j + 1) by omega]; rfl, by rw [h.2]; simp⟩
theorem Mid.step {p : List Int} {n k t : Nat} {D1 D2 : DataW Unit} (h : Mid p n k D1 D2 t) {q : List Int} (hq : OKp n q) {c : Nat} (hc : 0 < c) (ha : at0 D1 (.string (numsT q)) = c) :
    Mid p n k (D1.del (.string (numsT q))) (addAll D2 c q (dscL q)) (t + c) := by
  obtain ⟨g1, g2, hs, ht⟩ := h
  refine ⟨g1.del _, g2.addAll hc _ _ hq.below, fun j => ?_, ?_⟩
  · have h1 := wt_del g1.1 (gk (np (j + 1))) (.string (numsT q))
    rw [ha, gk_text (np (j + 1)) (ord_dig hq.1)] at h1
    have h2 := wt_addAll hc (gk (np j)) (dscL q) D2 g2 hq.below
    have h3 : ((dscL q).map fun d => gk (np j) (.string (numsT (exch q d.toNat)))).sum = np (j + 1) q := by
      simp only [np]
      exact sum_congr _ _ _ fun d hd => gk_text (np j) (ord_dig (hq.below d hd).1)
    rw [h3] at h2
    have h4 := hs j
    rw [Nat.mul_comm] at h1
    omega
  · have h1 := wt_del g1.1 (gk (np 0)) (.string (numsT q))
    rw [ha, gk0, Nat.one_mul] at h1
    omega
theorem Mid.stop {p : List Int} {n k t : Nat} {D2 : DataW Unit} (h : Mid p n k (.map []) D2 t) : Lev p n (k + 1) D2 ∧ t = np k p := by
  obtain ⟨_, g2, hs, ht⟩ := h
  refine ⟨⟨g2, fun j => ?_⟩, ?_⟩
  · have := hs j
    rw [wt_nil, Nat.zero_add] at this
    exact this
  · rw [wt_nil] at ht
    omega
theorem Lev.start {p : List Int} {n : Nat} (hp : OKp n p) : Lev p n 0 ((DataW.map []).put (.string (numsT p)) (nd 1)) := by
  have e : (DataW.map []).put (.string (numsT p)) (nd 1) = addTo (.map []) (.string (numsT p)) 1 := by
    unfold addTo at0
    rw [atKey_map]
    simp [valN_nd]
  rw [e]
  refine ⟨(Gd.empty _).add hp (by omega), fun j => ?_⟩
  rw [wt_add tidy_empty, wt_nil, gk_text (np j) (ord_dig hp.1)]
  simp
theorem Lev.size {p : List Int} {n k : Nat} {D : DataW Unit} (h : Lev p n k D) : Maps.size D ≤ np k p := by
  have h1 := h.1.size (gk (np 0)) (fun l => Nat.le_refl _)
  have h2 := h.2 0
  rw [h2] at h1
  exact h1
theorem Lev.pos {p : List Int} {n k : Nat} {D : DataW Unit} (h : Lev p n k D) (hk : k ≤ ninv p) : 0 < Maps.size D := by
  have h1 := h.2 0
  have h2 := np_pos k p hk
  rcases Nat.eq_zero_or_pos (Maps.size D) with h0 | h0
  · obtain ⟨⟨⟨es, rfl, _⟩, _⟩, _⟩ := h
    rw [size_eq] at h0
    have : es = [] := List.eq_nil_of_length_eq_zero h0
    subst this
    rw [wt_nil] at h1
    have h3 : np (k + 0) p = np k p := rfl
    omega
  · exact h0
theorem Lev.none {p : List Int} {n k : Nat} {D : DataW Unit} (h : Lev p n k D) (hk : ninv p < k) : Maps.size D = 0 := by
  have := h.size
  rw [np_zero k p hk] at this
  omega
theorem Mid.two {p : List Int} {n k t : Nat} {D1 D2 : DataW Unit} (h : Mid p n k D1 D2 t) : wt (gk (np 0)) D2 ≤ np (k + 1) p := by
  have := h.2.2.1 0
  have e : np (k + 1 + 0) p = np (k + 1) p := rfl
  omega
theorem Mid.cnt {p : List Int} {n k t : Nat} {D1 D2 : DataW Unit} (h : Mid p n k D1 D2 t) (q : List Int) : t + at0 D1 (.string (numsT q)) ≤ np k p := by
  have h1 := at0_le h.1.1 (gk (np 0)) (.string (numsT q))
  rw [gk0, Nat.one_mul] at h1
  have := h.2.2.2
  omega

/-- All blocks but some are as they were. -/
structure KB (L : List Nat) (w w' : World) : Prop where
  os : w'.os = w.os
  tape : w'.tape = w.tape
  output : w'.output = w.output
  size : w.heap.size ≤ w'.heap.size
  block : ∀ i, i < w.heap.size → i ∉ L → w'.heap[i]? = w.heap[i]?
theorem KB.refl (L : List Nat) (w : World) : KB L w w := ⟨rfl, rfl, rfl, Nat.le_refl _, fun _ _ _ => rfl⟩
theorem KB.trans {L : List Nat} {a b c : World} (h : KB L a b) (k : KB L b c) : KB L a c :=
  ⟨k.os.trans h.os, k.tape.trans h.tape, k.output.trans h.output, Nat.le_trans h.size k.size, fun i hi hn => (k.block i (Nat.lt_of_lt_of_le hi h.size) hn).trans (h.block i hi hn)⟩
theorem KB.grown {L : List Nat} {a b c : World} {row : Option Nat} (h : KB L a b) (k : b.grownBy c row) (hr : ∀ j, row = some j → j ∈ L ∨ a.heap.size ≤ j) : KB L a c :=
  ⟨k.os.trans h.os, k.tape.trans h.tape, k.output.trans h.output, Nat.le_trans h.size k.size, fun i hi hn => (k.block i (Nat.lt_of_lt_of_le hi h.size) (fun e => by
    rcases hr i e.symm with h1 | h1
    · exact hn h1
    · omega)).trans (h.block i hi hn)⟩
theorem KB.alloc {L : List Nat} {a b : World} (h : KB L a b) (o : Obj) : KB L a (b.alloc o) := h.grown (World.grownBy_alloc b o none) (fun j hj => by cases hj)
theorem KB.below {L : List Nat} {a b : World} (h : KB L a b) {B : Nat} (hB : B ≤ a.heap.size) (hL : ∀ j ∈ L, B ≤ j) : Below B a b :=
  ⟨h.os, h.tape, h.output, h.size, fun i hi => h.block i (by omega) (fun hm => by have := hL i hm; omega)⟩
theorem KB.oi {L : List Nat} {a b : World} (h : KB L a b) {B n c : Nat} {A : Option Addr} {zs : List Int} (ho : OI a B A n c zs) (hne : ∀ j, blk A = some j → j ∉ L) : OI b B A n c zs := by
  refine ⟨ho.1, ho.2.1, ?_⟩
  have hb := ho.blk
  rcases ho.2.2 with h0 | ⟨g, cap, cur, hv, hB, hh, r⟩
  · exact .inl h0
  · refine .inr ⟨g, cap, cur, hv, hB, ?_, r⟩
    injection hv with e1 _ _
    subst e1
    rw [h.block g (hb g rfl).2 (hne g rfl), hh]
/-- A cell of a variable's own block. -/
structure Bx (w : World) (b : Nat) (v : Value) : Prop where
  c0 : w.cell? ⟨b, 0, none⟩ = some v
  f0 : w.frozen? ⟨b, 0, none⟩ = false
  lt : b < w.heap.size
theorem Bx.kb {L : List Nat} {a b : World} (h : KB L a b) {x : Nat} {v : Value} (hx : Bx a x v) (hn : x ∉ L) : Bx b x v := by
  have e := h.block x hx.lt hn
  exact ⟨(World.cell?_of_block (a := ⟨x, 0, none⟩) e).trans hx.c0, (World.frozen?_of_block (a := ⟨x, 0, none⟩) e).trans hx.f0, Nat.lt_of_lt_of_le hx.lt h.size⟩
theorem Bx.grown {a b : World} {row : Option Nat} (h : a.grownBy b row) {x : Nat} {v : Value} (hx : Bx a x v) (hn : some x ≠ row) : Bx b x v := by
  have e := h.block x hx.lt hn
  exact ⟨(World.cell?_of_block (a := ⟨x, 0, none⟩) e).trans hx.c0, (World.frozen?_of_block (a := ⟨x, 0, none⟩) e).trans hx.f0, Nat.lt_of_lt_of_le hx.lt h.size⟩
theorem Bx.new (w : World) (v : Value) (t : TypeId) : Bx (w.alloc (.cells #[v] t)) w.heap.size v := ⟨by simp, by simp [go_sem], by simp⟩

theorem OM.tight {w : World} {b n : Nat} {D : DataW Unit} (h : OM w b n D) : OM w b (Maps.size D) D := by
  obtain ⟨es, clock, hb, F, _, rfl⟩ := h
  refine ⟨es, clock, hb, F, ?_, rfl⟩
  rw [size_eq, length_sorted]
  simp
theorem keyText {n : Nat} {q : List Int} (h : OKp n q) (hn : n ≤ 6) : keyOf Tryz.prog 9 (.string (bs (numsT q))) = some (.string (numsT q)) := by
  have h1 : (bs (numsT q)).size ≤ maxLen := by
    rw [bs_size]
    have := numsT_len (ord_dig h.1)
    have := h.2
    unfold maxLen
    omega
  rw [WideMaps.keyOf_string_mk Tryz.underlying9 h1, bs_list]

section
variable {ops : Array Oper} {rest : List Oper} {o : Oper} {a : Act} {Q : Exit → Act → World → Prop}
/-- a map literal's entry -/
theorem wpList_insert_own (w : World)
    (hg : o.guard = none) (m x v : Operand) (t : TypeId) (hop : o.op = Op.insert t m x v)
    (k e : TypeId) (K : Keyed Tryz.prog k) (ht : Tryz.prog.underlying t = some (.map k e)) (R : Value → Option (DataW Unit × List MemPlace)) (b n : Nat) (D : DataW Unit)
    (hm : a.eval m = .map (some b)) (hown : w.ownsMap Tryz.prog k R b n D) (hn : n < maxLen) (key val : Value) (kl : Lit) (hx : a.eval x = key) (hv : a.eval v = val) (hkey : keyOf Tryz.prog k key = some kl)
    (d : DataW Unit) (ps : List MemPlace) (hval : R val = some (d, ps))
    (hK : ∀ w', w'.ownsMap Tryz.prog k R b (n + 1) (D.put kl d) → w.grownBy w' (some b) → wpList Tryz.prog ops Q rest (a.put o.dst undef) w') :
    wpList Tryz.prog ops Q (o :: rest) a w := by
  refine wpList_plain hg fun K' hK' => ?_
  obtain ⟨w', hrun, r1, r2⟩ := hown.update K ht hn hkey hval
  unfold Oper.wp
  simp [execOp, hop, hm, hx, hv, hrun, Result.andThen]
  exact hK' _ _ (hK w' r1 r2)
set_option maxRecDepth 100000 in
/-- the step of a loop over a map of such a kind -/
theorem wpList_next_OM (w : World) (hg : o.guard = none) (it : Operand) (hop : o.op = Op.next it false) (b r n n0 : Nat) (D : DataW Unit) (left : Lit → Bool) (cnt : Nat)
    (hit : a.eval it = .pointer (some ⟨r, 0, none⟩)) (h : w.ranges Tryz.prog 9 (plainElem Tryz.prog 3) b r n D left cnt) (hG : Gd (OKp n0) D) (hl : ∀ kl, left kl = Maps.has D kl)
    (hDone : D = .map [] → wpList Tryz.prog ops Q rest (a.put o.dst (.tuple #[.bool false])) w)
    (hMore : ∀ (q : List Int) (c : Nat) (w' : World) (cnt' : Nat), OKp n0 q → 0 < c → at0 D (.string (numsT q)) = c → w'.ranges Tryz.prog 9 (plainElem Tryz.prog 3) b r n D (fun z => left z && !z.sameKey (.string (numsT q))) cnt' → cnt' < cnt →
      w.grownBy w' (some r) → w'.heap.size = w.heap.size → (Instr.entry (.pointer (some ⟨r, 0, none⟩))).run Tryz.prog w' = .ok (.tuple #[.string (bs (numsT q)), .int .i64 (c : Int)]) w' →
      wpList Tryz.prog ops Q rest (a.put o.dst (.tuple #[.bool true, .string (bs (numsT q)), .int .i64 (c : Int)])) w') :
    wpList Tryz.prog ops Q (o :: rest) a w := by
  refine wpList_next_ranges w hg it hop 9 keyK (plainElem Tryz.prog 3) (fun s : ByteArray => Value.string s) (fun c : Int => Value.int .i64 c)
    (fun key kl hk => by obtain ⟨s, rfl, _⟩ := WideMaps.string_of_keyOf Tryz.underlying9 hk; exact ⟨s, rfl⟩)
    (fun v y hv => by obtain ⟨c, rfl, _⟩ := plainElem_int_inv Tryz.underlying3 hv; exact ⟨c, rfl⟩) b r n D left cnt hit h (fun _ hl0 => hDone (hG.none fun kl => by rw [← hl, hl0])) ?_
  intro x c kl y w' cnt' hkey hlk hv hat hrg hlt hgr hsz hen
  obtain ⟨q, m, hq, hkl, hat2, hm⟩ := hG.at (kl := kl) (by rw [← hl]; exact hlk)
  obtain ⟨c', ec, rfl, _⟩ := plainElem_int_inv Tryz.underlying3 hv
  injection ec with _ ec
  subst ec
  have e1 := (hat (nd 0)).symm.trans (hat2 (nd 0))
  injection e1 with e1
  injection e1 with _ e1
  subst e1
  obtain ⟨s, es, ekl, _⟩ := WideMaps.string_of_keyOf Tryz.underlying9 hkey
  injection es with es
  subst es
  have e2 : x = bs (numsT q) := by
    rw [hkl] at ekl
    injection ekl with ekl
    have : x.data = (numsT q).toArray := by rw [ekl]
    unfold bs
    rw [← this]
  subst e2
  subst hkl
  exact hMore q m w' cnt' hq hm (by unfold at0; rw [hat2, valN_nd]) hrg hlt hgr hsz hen
end
theorem left_del {D : DataW Unit} {left : Lit → Bool} (hl : ∀ kl, left kl = Maps.has D kl) (l : List UInt8) : ∀ kl, (left kl && !kl.sameKey (.string l)) = Maps.has (D.del (.string l)) kl := by
  intro kl
  by_cases e : kl = .string l
  · subst e
    rw [has_del_same, str_same]
    simp
  · rw [has_del_other e, sameKey_ne e, hl]
    simp
end Go.Proofs.YtgeeifjbfceogaaGreatDoor
namespace Go.Proofs.YtgeeifjbfceogaaGreatDoor
open Go Go.RowKit Go.Maps

def lenV : Value → Nat
  | .slice _ n _ => n
  | _ => 0

set_option maxRecDepth 100000 in
set_option maxHeartbeats 8000000 in
theorem countBeginnings_any (n : Nat) (p : List Int) (hp : OKp n p) (hn2 : 2 ≤ n) (hn : n ≤ 6) (A0 : Option Addr) (c0 : Nat) (w : World) (h : RI w A0 n p) (hGl : Glob w) :
    Calls Tryz.prog 47 #[.slice A0 n c0] w (FreshI w (ninv p + 1) (begs p)) := by
  have HDD : Hid (∀ q, OKp n q → Hid (∀ (A : Option Addr) (c : Nat) (w : World), RI w A n q → n ≤ c → Calls Tryz.prog 92 #[.slice A n c] w (FreshIB w (dscL q).length (dscL q) true))) := fun q hq => fun A c w hr hc => by
    have := iDescentsOf_any A n c q w hr (by omega) hc
    rw [dscN_yes hq.1, hq.1] at this
    exact this
  have HP := Lib.hid hp
  have HGL := Lib.hid hGl
  have hpl : p.length ≤ 6 := by rw [hp.2]; exact hn
  have hdig := ord_dig hp.1
  have hinv : ninv p ≤ 15 := ninv_six hpl
  have hg4 : 4 ≤ w.heap.size := by have h1 := hGl.lt; have h2 := hGl.lm; omega
  have HS : Hid (∀ k, np k p ≤ 30517578125) := fun k => np_small k hpl
  have hmm := @run_makeMap Tryz.prog
  have HTX := Lib.hid (listText_any A0 n c0 p (w.alloc (.map #[] 0)) (h.alloc _) (by omega) hdig)
  clear hp hGl h hdig hpl
  go_enter Tryz.func47, Tryz.ntmps47
  go_wp2_with fail
  refine HTX.out.mono ?_
  rintro e w1 ⟨rfl, hb1⟩
  have HM1 : Hid (OM w1 w.heap.size 0 (.map [])) := Lib.hid ((World.ownsMap_made w _ _ _).kept (grown_of_below hb1 none) (by simp))
  have HB1 : Hid (Below w.heap.size w w1) := Lib.hid (((Below.refl _ w).alloc (Nat.le_refl _) _).trans (hb1.mono (by simp)))
  have HZ1 : Hid (w.heap.size + 1 ≤ w1.heap.size) := by have := hb1.size; simp at this; exact this
  clear hb1 HTX
  go_wp2_with (first
    | (refine wpList_insert_own _ rfl _ _ _ 79 rfl 9 3 keyK Tryz.underlying79 _ w.heap.size 0 _ rfl HM1.out (by decide) _ _ _ rfl rfl (keyText HP.out hn) _ [] (plainElem_int Tryz.underlying3 (by decide)) ?_; intro w2 ho2 hg2)
    | go_in)
  have HZ2 : Hid (w1.heap.size ≤ w2.heap.size) := Lib.hid hg2.size
  have HB2 : Hid (Below w.heap.size w w2) := Lib.hid (HB1.out.grown hg2 HB1.out.size (fun j hj => by injection hj with hj; omega))
  have HL0 : Hid (Lev p n 0 ((DataW.map []).put (.string (numsT p)) (.lit (.int .i64 1)))) := Lib.hid (Lev.start HP.out)
  obtain ⟨D0, hD0⟩ : ∃ D0, D0 = (DataW.map []).put (.string (numsT p)) (.lit (.int .i64 1) : DataW Unit) := ⟨_, rfl⟩
  rw [← hD0] at ho2 HL0
  have HM2 := Lib.hid ho2
  clear hg2 ho2 HB1 HM1 hD0
  obtain ⟨m1, hm1⟩ : ∃ m1, m1 = w.heap.size := ⟨_, rfl⟩
  obtain ⟨m2, hm2⟩ : ∃ m2, m2 = w2.heap.size := ⟨_, rfl⟩
  obtain ⟨w3, hw3⟩ : ∃ w3, w3 = (w2.alloc (.map #[] 0)).alloc (.cells #[.map (some m2)] 79) := ⟨_, rfl⟩
  have HW3B : Hid (Below w.heap.size w w3) := by
    show Below _ _ _
    rw [hw3]
    exact (HB2.out.alloc HB2.out.size _).alloc (by have := HB2.out.size; simp; omega) _
  have HW3A : Hid (OM w3 m1 (Maps.size D0) D0) := by
    show OM _ _ _ _
    rw [hw3, hm1]
    exact OM.tight ((HM2.out.alloc _).alloc _)
  have HW3C : Hid (OM w3 m2 0 (.map [])) := by
    show OM _ _ _ _
    rw [hw3]
    have := World.ownsMap_made w2 Tryz.prog 9 (plainElem (H := Unit) Tryz.prog 3)
    rw [← hm2] at this
    exact this.alloc _
  have HW3X : Hid (Bx w3 (m2 + 1) (.map (some m2))) := by
    show Bx _ _ _
    have := Bx.new (w2.alloc (.map #[] 0)) (.map (some m2)) 79
    rw [World.size_alloc, ← hm2] at this
    rw [hw3]
    exact this
  have HW3Z : Hid (w3.heap.size = m2 + 2) := by
    show _ = _
    rw [hw3, World.size_alloc, World.size_alloc, ← hm2]
  have HM12 : Hid (m1 < m2) := by show _ < _; have := HZ1.out; have := HZ2.out; omega
  rw [← hm1] at HB2 HW3B
  rw [← hm1, ← hm2, ← hw3]
  have HMW := Lib.hid hm1
  clear hw3 hm1 hm2 HM2 HB2 HZ1 HZ2
  go_loopw [3, 4] (fun s3 s4 wr => ∃ (k : Nat) (A : Option Addr) (c B1 B2 : Nat) (D : DataW Unit), k ≤ ninv p + 1 ∧ s3 = .slice A k c ∧ s4 = .map (some B1) ∧ ((B1 = m1 ∧ B2 = m2) ∨ (B1 = m2 ∧ B2 = m1)) ∧ Lev p n k D ∧ OM wr B1 (Maps.size D) D ∧ OM wr B2 0 (.map []) ∧ Bx wr (m2 + 1) (.map (some B2)) ∧ OI wr (m2 + 2) A k c (begsK p k) ∧ Below m1 w wr ∧ m2 + 2 ≤ wr.heap.size) (fun s3 _ _ => ninv p + 2 - lenV s3)
  case atStart => exact ⟨0, none, 0, m1, m2, D0, by omega, rfl, rfl, .inl ⟨rfl, rfl⟩, HL0.out, HW3A.out, HW3C.out, HW3X.out, OI.none_ _ _, HW3B.out, by have := HW3Z.out; omega⟩
  case round =>
    obtain ⟨k, A, c, B1, B2, D, hk, rfl, rfl, hbb, hlev, hom1, hom2, hbx, hoi, hbel, hsz⟩ := hrel
    have HLEV := Lib.hid hlev
    have HOM1 := Lib.hid hom1
    have HOM2 := Lib.hid hom2
    have HBX := Lib.hid hbx
    have HOI := Lib.hid hoi
    have HBEL := Lib.hid hbel
    have HBB : Hid (B1 ≠ B2 ∧ m1 ≤ B1 ∧ m1 ≤ B2 ∧ B1 < m2 + 1 ∧ B2 < m2 + 1 ∧ ((B2 = m1 ∧ B1 = m2) ∨ (B2 = m2 ∧ B1 = m1))) := by show _ ∧ _; have := HM12.out; omega
    obtain ⟨N, hN⟩ : ∃ N, N = Maps.size D := ⟨_, rfl⟩
    have HN := Lib.hid hN
    clear hlev hom1 hom2 hbx hoi hbel hbb hN
    by_cases hlt : k ≤ ninv p
    · have hpos : (0 : Int) < (N : Int) := by have := HLEV.out.pos hlt; rw [← HN.out] at this; omega
      have hsD : Maps.size D = N := HN.out.symm
      go_wp2_with (first
        | (at_len; refine wpList_len_own _ rfl _ 79 rfl 9 3 Tryz.underlying79 _ B1 _ _ rfl HOM1.out ?_; rw [hsD])
        | (at_range; refine wpList_range_own _ rfl _ 79 rfl 9 3 keyK Tryz.underlying79 _ B1 _ _ rfl HOM1.out ?_; intro w0 hrg0 hg0 hs0)
        | go_in)
      go_frame
      rw [show decide (0 < N) = true from decide_eq_true (by omega)]
      obtain ⟨r, hr⟩ : ∃ r, r = wr.heap.size := ⟨_, rfl⟩
      rw [← hr] at hrg0 hs0 ⊢
      have HW0 : Hid (KB [B1, B2, r] wr w0) := Lib.hid ((KB.refl _ wr).grown hg0 (fun j hj => by cases hj))
      have HBEL0 : Hid (Below m1 w w0) := Lib.hid (HBEL.out.trans ((HW0.out.below (B := m1) (by have := hsz; have := HM12.out; omega) (fun j hj => by have := HBB.out; simp at hj; omega))))
      have HBX0 : Hid (Bx w0 (m2 + 1) (.map (some B2))) := Lib.hid (HBX.out.kb HW0.out (by have := HBB.out; simp; omega))
      have HOI0 : Hid (OI w0 (m2 + 2) A k c (begsK p k)) := Lib.hid (HW0.out.oi HOI.out (fun j hj hm => by have h1 := (HOI.out.blk j hj); have := HBB.out; simp at hm; omega))
      have HOIB : Hid (∀ j, blk A = some j → j ∉ [B1, B2, r]) := fun j hj hm => by have h1 := (HOI.out.blk j hj); have := HBB.out; simp at hm; omega
      have HOM20 : Hid (OM w0 B2 0 (.map [])) := Lib.hid (HOM2.out.kept hg0 (by simp))
      have HSZ : Hid (m2 + 2 ≤ r ∧ w0.heap.size = r + 1) := Lib.hid ⟨by omega, hs0⟩
      have HRG0 := Lib.hid hrg0
      clear hrg0 hg0 hs0 hpos hsD HOM1 HOM2 HBX HOI HBEL HW0 hr hsz
      go_loopw [6] (fun s6 wi => ∃ (left : Lit → Bool) (cnt : Nat) (D1 D2 : DataW Unit) (t : Nat), s6 = .int .i64 (t : Int) ∧ wi.ranges Tryz.prog 9 (plainElem Tryz.prog 3) B1 r (Maps.size D) D1 left cnt ∧ (∀ kl, left kl = Maps.has D1 kl) ∧ Mid p n k D1 D2 t ∧ OM wi B2 (Maps.size D2) D2 ∧ KB [B1, B2, r] w0 wi) (fun _ wi => wi.rangeLeft B1 r)
      case atStart => exact ⟨_, _, D, .map [], 0, rfl, HRG0.out, fun _ => rfl, Mid.start HLEV.out, HOM20.out.tight, KB.refl _ _⟩
      case round =>
        obtain ⟨left, cnt, D1, D2, t, rfl, hrg, hl, hmid, hom, hkb⟩ := hrel
        have HKB := Lib.hid hkb
        have HOM := Lib.hid hom
        have HMID := Lib.hid hmid
        have HL := Lib.hid hl
        have HRG := Lib.hid hrg
        clear hkb hom hmid hl hrg
        go_wp2_with (first
          | (at_next; refine wpList_next_OM _ rfl _ rfl B1 r _ n _ _ _ rfl HRG.out HMID.out.1 HL.out ?_ ?_)
          | go_in)
        · intro hD1
          subst hD1
          obtain ⟨hlev2, rfl⟩ := HMID.out.stop
          have HLEV2 := Lib.hid hlev2
          have HOIw : Hid (OI wr (m2 + 2) A k c (begsK p k)) := Lib.hid (HKB.out.oi HOI0.out HOIB.out)
          have HBELw : Hid (Below m1 w wr) := Lib.hid (HBEL0.out.trans (HKB.out.below (by have := HSZ.out; have := HM12.out; omega) (fun j hj => by have := HBB.out; have := HSZ.out; simp at hj; omega)))
          have HBXw : Hid (Bx wr (m2 + 1) (.map (some B2))) := Lib.hid (HBX0.out.kb HKB.out (by have := HBB.out; have := HSZ.out; simp; omega))
          have HO1w : Hid (OM wr B1 0 (.map [])) := Lib.hid (OM.tight HRG.out.owns)
          have hzw : m2 + 2 ≤ wr.heap.size := by have := HSZ.out; have := HKB.out.size; omega
          clear hlev2 HRG HL HMID
          go_wp2_with (first
            | (at_builtin; refine wpList_append_int _ rfl _ _ rfl (m2 + 2) A k c _ ((np k p : Nat) : Int) _ rfl rfl (HOIw.out.alloc _) (cellNewAt _ _ _ rfl) (by omega) (by simp; omega) ?_; intro A2 c2 w2 ho2 hg2; have HO2 := Lib.hid ho2; have HG2 := Lib.hid hg2; have HN2 : Hid (∀ j, j < (m2 + 2) → some j ≠ blk A) := Lib.hid (fun j hj e => by have := (HOIw.out.blk j e.symm).1; omega); have HX2 : Hid (Bx w2 (m2 + 1) (.map (some B2))) := Lib.hid (Bx.grown hg2 (Bx.kb ((KB.refl [] _).alloc _) HBXw.out (by simp)) (HN2.out _ (by omega))); have x2 := HX2.out.c0; have f2 := HX2.out.f0; clear ho2 hg2)
            | go_in)
          have HKW : Hid (∀ b, b < (m2 + 2) → some b ≠ blk A) := HN2
          go_roundw
          case rel =>
            refine ⟨k + 1, A2, c2, B2, B1, D2, by omega, rfl, rfl, by have := HBB.out; omega, HLEV2.out, ?_, ?_, ?_, ?_, ?_, ?_⟩
            · exact ((HOM.out.alloc _).kept HG2.out (HN2.out _ (by have := HBB.out; omega))).setCell (by have := HBB.out; show _ ≠ m2 + 1; omega) _
            · exact ((HO1w.out.alloc _).kept HG2.out (HN2.out _ (by have := HBB.out; omega))).setCell (by have := HBB.out; show _ ≠ m2 + 1; omega) _
            · exact ⟨by simp [go_sem, x2], by simp [go_sem, f2], by simpa using HX2.out.lt⟩
            · rw [begsK_succ]; exact HO2.out.setBelow (by show m2 + 1 < _; omega) _
            · refine Below.setCell ?_ (by have := HM12.out; show m1 ≤ m2 + 1; omega) _
              exact (HBELw.out.alloc (by have := HM12.out; omega) _).grown HG2.out (by simp; have := HM12.out; omega) (fun j hj => by have := (HOIw.out.blk j hj).1; have := HM12.out; omega)
            · have := HG2.out.size; simp at this ⊢; omega
          case measure => simp [lenV]; omega
        · intro q cc w1 cnt1 hq hc0 hat hrg1 hlt1 hg1 hs1 hen
          have HQ := Lib.hid hq
          have htc : t + cc ≤ 30517578125 := by
            have := HMID.out.cnt q
            rw [hat] at this
            have := HS.out k
            omega
          have HAT := Lib.hid hat
          have HRG1 := Lib.hid hrg1
          have HG1 := Lib.hid hg1
          have HS1 := Lib.hid hs1
          clear hq hat hrg1 hg1 hs1
          have HKB1 : Hid (KB [B1, B2, r] w0 (w1.alloc (.cells #[.int .i64 (cc : Int)] 3))) := Lib.hid ((HKB.out.grown HG1.out (fun j hj => by injection hj with hj; subst hj; left; simp)).alloc _)
          have hti : (t : Int) + (cc : Int) ≤ 30517578125 := by omega
          have hti2 : (t : Int) ≤ 30517578125 := by omega
          have hci2 : (cc : Int) ≤ 30517578125 := by omega
          have hz1 : m2 + 2 ≤ w1.heap.size := by have := HSZ.out; have := HKB.out.size; have := HS1.out; omega
          have HGB : Hid (Glob (w1.alloc (.cells #[.int .i64 (cc : Int)] 3))) := Lib.hid (HGL.out.below (by
            rw [← HMW.out]
            exact HBEL0.out.trans (HKB1.out.below (by have := HSZ.out; have := HM12.out; omega) (fun j hj => by have := HBB.out; have := HSZ.out; simp at hj; omega))))
          have HEA := Lib.hid (eachRest_any n q HQ.out hn2 hn (HDD.out q HQ.out) (m2 + 1) w1.heap.size B2 (Maps.size D2) cc D2 (w1.alloc (.cells #[.int .i64 (cc : Int)] 3)) HGB.out
            ((HOM.out.kept HG1.out (by have := HBB.out; have := HSZ.out; simp; omega)).alloc _) HMID.out.2.1 hc0
            (by have h1 := HMID.out.2.1.size (gk (np 0)) (fun l => Nat.le_refl _); have h2 := HMID.out.two; have h3 := HS.out (k + 1); omega)
            (HBX0.out.kb HKB1.out (by have := HBB.out; have := HSZ.out; simp; omega)).c0 (Bx.new w1 _ _).c0 (by have := HBB.out; omega) (by have := HBB.out; omega) (by simp; omega) (by simp)
            (by have h2 := HMID.out.two; have h3 := HS.out (k + 1); omega))
          go_wp2_with fail
          refine HEA.out.mono ?_
          rintro e w2 ⟨rfl, ho2, hg2⟩
          have HO2 := Lib.hid ho2
          have HG2 := Lib.hid hg2
          have HRG2 : Hid (w2.ranges Tryz.prog 9 (plainElem Tryz.prog 3) B1 r (Maps.size D) D1 (fun z => left z && !z.sameKey (.string (numsT q))) cnt1) := Lib.hid ((HRG1.out.alloc _).kept hg2 (by have := HBB.out; simp; omega) (by have := HBB.out; have := HSZ.out; simp; omega))
          have HKB2 : Hid (KB [B1, B2, r] w0 w2) := Lib.hid (HKB1.out.grown hg2 (fun j hj => by injection hj with hj; subst hj; left; simp))
          clear ho2 hg2 HEA HGB HKB1
          go_wp2_with (first
            | (at_delete; refine wpList_delete_ranges _ rfl _ _ 79 9 rfl 3 keyK Tryz.underlying79 _ B1 r _ _ _ _ rfl HRG2.out _ _ rfl (keyText HQ.out hn) ?_; intro w3 cnt3 hrg3 hle hturn; go_frame)
            | go_in)
          rw [strike_twice] at hrg3
          go_roundw
          case rel =>
            refine ⟨_, cnt3, D1.del (.string (numsT q)), addAll D2 cc q (dscL q), t + cc, by go_num, hrg3, left_del HL.out (numsT q), HMID.out.step HQ.out hc0 HAT.out, ?_, ?_⟩
            · exact OM.tight (HO2.out.kept hturn.grown (by have := HBB.out; simp; omega))
            · exact HKB2.out.grown hturn.grown (fun j hj => by injection hj with hj; subst hj; left; simp)
          case measure => rw [hrg3.left_eq, HRG.out.left_eq]; omega
    · obtain rfl : k = ninv p + 1 := by omega
      have hsD : Maps.size D = 0 := HLEV.out.none (by omega)
      go_wp2_with (first
        | (at_len; refine wpList_len_own _ rfl _ 79 rfl 9 3 Tryz.underlying79 _ B1 _ _ rfl HOM1.out ?_; rw [hsD])
        | go_in)
      go_ret
      exact ⟨A, c, rfl, (begsK_all p ▸ HOI.out).mono (by have := HM12.out; have := HMW.out; omega), by have := HBEL.out; rw [HMW.out] at this; exact this⟩
end Go.Proofs.YtgeeifjbfceogaaGreatDoor
namespace Go.Proofs.YtgeeifjbfceogaaGreatDoor
open Go Go.RowKit Go.Maps

/-- An order that is counted. -/
def cg (zs : List Int) : Bool := ord zs && decide (2 ≤ zs.length ∧ zs.length ≤ 6)
def cntN (zs : List Int) : Int := if cg zs = true then (cnt zs : Int) else 0
theorem cg_iff {zs : List Int} : cg zs = true ↔ ord zs = true ∧ 2 ≤ zs.length ∧ zs.length ≤ 6 := by simp [cg]
theorem cntN_yes {zs : List Int} (h : cg zs = true) : cntN zs = (cnt zs : Int) := by unfold cntN; rw [if_pos h]
theorem cntN_no {zs : List Int} (h : cg zs = false) : cntN zs = 0 := by unfold cntN; rw [h]; rfl
theorem gi_begs_last (p : List Int) : gi (begs p) (ninv p) = (cnt p : Int) := by
  unfold begs gi
  simp [List.getD, cnt]

set_option maxHeartbeats 1000000 in
theorem iIsCounted_any (A : Option Addr) (n c : Nat) (zs : List Int) (w : World) (h : RI w A n zs) (hn : n ≤ 1048576) :
    Calls Tryz.prog 46 #[.slice A n c] w (RetB (cg zs) w) := by
  have hl := h.1
  have HI := Lib.hid (iIsOrder_any A n c zs w h (by omega))
  obtain ⟨q, hq⟩ : ∃ q, q = ord zs := ⟨_, rfl⟩
  rw [← hq] at HI
  have e : cg zs = (q && decide (2 ≤ n ∧ n ≤ 6)) := by unfold cg; rw [hq, hl]
  rw [e]
  clear e hq h
  cases q
  · go_enter Tryz.func46, Tryz.ntmps46
    go_wp2_with fail
    refine HI.out.mono ?_
    rintro e w1 ⟨rfl, hb⟩
    go_wp2
    go_ret
    exact ⟨rfl, hb⟩
  · by_cases h2 : 2 ≤ n
    · by_cases h6 : n ≤ 6
      · have HD : Hid ((true && decide (2 ≤ n ∧ n ≤ 6)) = true) := by show _ = _; simp [h2, h6]
        rw [HD.out]
        have i2 : (2 : Int) ≤ (n : Int) := by omega
        have i6 : (n : Int) ≤ 6 := by omega
        go_enter Tryz.func46, Tryz.ntmps46
        go_wp2_with fail
        refine HI.out.mono ?_
        rintro e w1 ⟨rfl, hb⟩
        go_wp2
        go_ret
        exact ⟨rfl, hb⟩
      · have HD : Hid ((true && decide (2 ≤ n ∧ n ≤ 6)) = false) := by show _ = _; simp [h6]
        rw [HD.out]
        have i2 : (2 : Int) ≤ (n : Int) := by omega
        have i6 : ¬ (n : Int) ≤ 6 := by omega
        go_enter Tryz.func46, Tryz.ntmps46
        go_wp2_with fail
        refine HI.out.mono ?_
        rintro e w1 ⟨rfl, hb⟩
        go_wp2
        go_ret
        exact ⟨by show Ending.returned (.bool (decide ((n : Int) ≤ 6))) = _; rw [decide_eq_false (by omega)], hb⟩
    · have HD : Hid ((true && decide (2 ≤ n ∧ n ≤ 6)) = false) := by show _ = _; simp [h2]
      rw [HD.out]
      have i2 : ¬ (2 : Int) ≤ (n : Int) := by omega
      go_enter Tryz.func46, Tryz.ntmps46
      go_wp2_with fail
      refine HI.out.mono ?_
      rintro e w1 ⟨rfl, hb⟩
      go_wp2
      go_ret
      exact ⟨rfl, hb⟩

set_option maxHeartbeats 1000000 in
theorem iCountLeast_any (A : Option Addr) (n c : Nat) (zs : List Int) (w : World) (h : RI w A n zs) (hn : n ≤ 1048576) (hGl : Glob w) :
    Calls Tryz.prog 13 #[.slice A n c] w (RetIB (cntN zs) (cg zs) w) := by
  have HI := Lib.hid (iIsCounted_any A n c zs w h hn)
  rcases hq : cg zs with _ | _
  · rw [cntN_no hq]
    rw [hq] at HI
    clear hq
    go_enter Tryz.func13, Tryz.ntmps13
    go_wp2_with fail
    refine HI.out.mono ?_
    rintro e w1 ⟨rfl, hb⟩
    go_wp2
    go_ret2
    exact ⟨rfl, hb⟩
  · rw [cntN_yes hq]
    rw [hq] at HI
    obtain ⟨ho, h2, h6⟩ := cg_iff.1 hq
    have hl := h.1
    have HE := Lib.hid (gi_begs_last zs)
    have HCB : Hid (∀ w1, Below w.heap.size w w1 → Calls Tryz.prog 47 #[.slice A n c] w1 (FreshI w1 (ninv zs + 1) (begs zs))) := fun w1 hb =>
      countBeginnings_any n zs ⟨ho, hl⟩ (by omega) (by omega) A c w1 (h.below hb (Nat.le_refl _)) (hGl.below hb)
    have hinv : ninv zs ≤ 15 := ninv_six h6
    obtain ⟨K, hK⟩ : ∃ K, K = ninv zs := ⟨_, rfl⟩
    obtain ⟨L, hL⟩ : ∃ L, L = begs zs := ⟨_, rfl⟩
    obtain ⟨r, hr⟩ : ∃ r : Int, r = (cnt zs : Int) := ⟨_, rfl⟩
    rw [← hK] at HCB HE hinv
    rw [← hL] at HCB HE
    rw [← hr] at HE ⊢
    clear hq ho h2 h6 hK hL hr h hGl
    go_enter Tryz.func13, Tryz.ntmps13
    go_wp2_with fail
    refine HI.out.mono ?_
    rintro e w1 ⟨rfl, hb⟩
    have HB := Lib.hid hb
    clear hb
    go_wp2_with fail
    refine (HCB.out w1 HB.out).mono ?_
    rintro e w2 ⟨A2, c2, rfl, o2, hb2⟩
    obtain ⟨b, off, rfl, _, hc⟩ := o2.ri.cell (show K < K + 1 by omega)
    have hck := hc K (by omega)
    rw [HE.out] at hck
    have HB2 := belStep HB hb2
    have i1 : (0 : Int) ≤ (K : Int) := by omega
    have hs : (K : Int) + 1 - 1 = (K : Int) := by omega
    have hw : IntKind.i64.wrap ((K : Int) + 1 - 1) = (K : Int) := by rw [hs]; exact IntWalk.i64_in _ (by omega)
    clear hc o2 hb2
    go_wp2
    go_ret2
    exact ⟨rfl, HB2.out⟩
end Go.Proofs.YtgeeifjbfceogaaGreatDoor
