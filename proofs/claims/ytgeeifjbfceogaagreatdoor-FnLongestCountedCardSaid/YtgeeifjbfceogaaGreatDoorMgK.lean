/- Maps from texts of orders to numbers, and what they weigh. What is below a first rung; the numbers of what is below are added up. All orders below one are added to a map, each as often as the order itself. -/
import Derived.Test.YtgeeifjbfceogaaGreatDoorMgJ
import Derived.Test.YtgeeifjbfceogaaGreatDoorMgI
import Derived.Maps.RangeWalk
import Derived.Maps.OwnSet
import Derived.Maps.Ext
import Derived.Test.YtgeeifjbfceogaaGreatDoorCln
import Derived.Test.YtgeeifjbfceogaaGreatDoorMgB
import Derived.Test.YtgeeifjbfceogaaGreatDoorMgC
import Derived.WalkMore
import Derived.BigRegion
import Derived.Test.YtgeeifjbfceogaaGreatDoorMgH
import Derived.Test.YtgeeifjbfceogaaGreatDoorMgG
import Derived.Maps.AppendAt
namespace Go.Proofs.YtgeeifjbfceogaaGreatDoor
open Go Go.Maps

def valN : DataW Unit → Nat
  | .lit (.int _ c) => c.toNat
  | _ => 0
def ents : DataW Unit → List (Lit × DataW Unit)
  | .map es => es
  | _ => []
def wtL (g : Lit → Nat) (es : List (Lit × DataW Unit)) : Nat := (es.map fun p => g p.1 * valN p.2).sum
def wt (g : Lit → Nat) (D : DataW Unit) : Nat := wtL g (ents D)
def nd (c : Nat) : DataW Unit := .lit (.int .i64 (c : Int))
theorem valN_nd (c : Nat) : valN (nd c) = c := by simp [valN, nd]
def at0 (D : DataW Unit) (k : Lit) : Nat := valN (D.atKey k (nd 0))
theorem wtL_cons (g : Lit → Nat) (x : Lit × DataW Unit) (l : List (Lit × DataW Unit)) : wtL g (x :: l) = g x.1 * valN x.2 + wtL g l := rfl
theorem wtL_insert (g : Lit → Nat) (x : Lit × DataW Unit) : ∀ l, wtL g (DataW.insert x l) = g x.1 * valN x.2 + wtL g l
  | [] => rfl
  | y :: r => by
    simp only [DataW.insert]
    split
    · rfl
    · rw [wtL_cons, wtL_cons, wtL_insert g x r]; omega
theorem mem_ins (x p : Lit × DataW Unit) : ∀ l, p ∈ DataW.insert x l → p = x ∨ p ∈ l
  | [], h => by simpa [DataW.insert] using h
  | y :: r, h => by
    simp only [DataW.insert] at h
    split at h
    · simpa using h
    · rcases List.mem_cons.1 h with rfl | h
      · simp
      · rcases mem_ins x p r h with rfl | h <;> simp_all
theorem same_eq {a b : Lit} (h : a.sameKey b = true) : a = b := by
  apply Classical.byContradiction
  intro hne
  rw [sameKey_ne hne] at h
  cases h
theorem atKey_map (es : List (Lit × DataW Unit)) (k : Lit) (z : DataW Unit) : (DataW.map es).atKey k z = (match es.find? (fun p => p.1.sameKey k) with | some p => p.2 | none => z) := by
  unfold DataW.atKey
  dsimp only
  split
  · rename_i x h; rw [h]
  · rename_i h; rw [h]
theorem wtL_split (g : Lit → Nat) (k : Lit) : ∀ (es : List (Lit × DataW Unit)), es.Pairwise (fun p q => p.1 ≠ q.1) →
    wtL g (es.filter fun p => !p.1.sameKey k) + g k * valN (match es.find? (fun p => p.1.sameKey k) with | some p => p.2 | none => nd 0) = wtL g es
  | [], _ => by simp [wtL, valN_nd]
  | x :: r, h => by
    rw [List.pairwise_cons] at h
    by_cases hx : x.1.sameKey k = true
    · have e := same_eq hx
      have hr : r.filter (fun p => !p.1.sameKey k) = r := by
        rw [List.filter_eq_self]
        intro p hp
        have hne : p.1 ≠ k := fun e2 => h.1 p hp (by rw [e, e2])
        rw [sameKey_ne hne]; rfl
      rw [List.filter_cons, hx, List.find?_cons, hx, wtL_cons]
      simp only [Bool.not_true, Bool.false_eq_true, if_false]
      rw [hr, e]; omega
    · have hx' : x.1.sameKey k = false := by simpa using hx
      have ih := wtL_split g k r h.2
      rw [List.filter_cons, hx', List.find?_cons, hx', wtL_cons]
      simp only [Bool.not_false, if_true]
      rw [wtL_cons]; omega

theorem wt_del {D : DataW Unit} (h : Tidy D) (g : Lit → Nat) (k : Lit) : wt g (D.del k) + g k * at0 D k = wt g D := by
  obtain ⟨es, rfl, hp⟩ := h
  unfold at0
  rw [atKey_map]
  exact wtL_split g k es hp
theorem wt_put {D : DataW Unit} (h : Tidy D) (g : Lit → Nat) (k : Lit) (d : DataW Unit) : wt g (D.put k d) + g k * at0 D k = wt g D + g k * valN d := by
  obtain ⟨es, rfl, hp⟩ := h
  have h1 := wtL_split g k es hp
  have h2 : wt g ((DataW.map es).put k d) = wtL g (DataW.insert (k, d) (es.filter fun p => !p.1.sameKey k)) := rfl
  have h3 : wt g (DataW.map es) = wtL g es := rfl
  unfold at0
  rw [h2, h3, atKey_map, wtL_insert]
  simp only
  omega
theorem at0_le {D : DataW Unit} (h : Tidy D) (g : Lit → Nat) (k : Lit) : g k * at0 D k ≤ wt g D := by
  have := wt_del h g k
  omega
def addTo (D : DataW Unit) (k : Lit) (c : Nat) : DataW Unit := D.put k (nd (at0 D k + c))
theorem wt_add {D : DataW Unit} (h : Tidy D) (g : Lit → Nat) (k : Lit) (c : Nat) : wt g (addTo D k c) = wt g D + g k * c := by
  have h1 := wt_put h g k (nd (at0 D k + c))
  rw [valN_nd, Nat.mul_add] at h1
  unfold addTo
  omega

/-- A map whose keys are texts of orders, its numbers above nought. -/
def Gd (ok : List Int → Prop) (D : DataW Unit) : Prop := Tidy D ∧ ∀ p ∈ ents D, ∃ q c, ok q ∧ p.1 = .string (numsT q) ∧ p.2 = nd c ∧ 0 < c
theorem str_isKey (l : List UInt8) : WideAt.IsKeyLit (.string l) := by first | exact trivial | (simp [WideAt.IsKeyLit])
theorem str_same (l : List UInt8) : (Lit.string l).sameKey (.string l) = true := by simp [Lit.sameKey]
theorem Gd.empty (ok : List Int → Prop) : Gd ok (.map []) := ⟨tidy_empty, fun p h => by cases h⟩
theorem Gd.add {ok : List Int → Prop} {D : DataW Unit} (h : Gd ok D) {q : List Int} (hq : ok q) {c : Nat} (hc : 0 < c) : Gd ok (addTo D (.string (numsT q)) c) := by
  obtain ⟨ht, he⟩ := h
  refine ⟨ht.put (str_isKey _) _, ?_⟩
  obtain ⟨es, rfl, hp⟩ := ht
  intro p hp
  rcases mem_ins _ _ _ hp with rfl | hp
  · exact ⟨q, _, hq, rfl, rfl, by omega⟩
  · exact he p ((List.mem_filter.1 hp).1)
theorem Gd.del {ok : List Int → Prop} {D : DataW Unit} (h : Gd ok D) (k : Lit) : Gd ok (D.del k) := by
  obtain ⟨ht, he⟩ := h
  refine ⟨ht.del k, ?_⟩
  obtain ⟨es, rfl, hp⟩ := ht
  intro p hp
  exact he p ((List.mem_filter.1 hp).1)
theorem Gd.at {ok : List Int → Prop} {D : DataW Unit} (h : Gd ok D) {kl : Lit} (hk : Maps.has D kl = true) : ∃ q c, ok q ∧ kl = .string (numsT q) ∧ (∀ z, D.atKey kl z = nd c) ∧ 0 < c := by
  obtain ⟨⟨es, rfl, hp⟩, he⟩ := h
  rw [has_eq] at hk
  rcases hf : es.find? (fun p => p.1.sameKey kl) with _ | p
  · rw [List.find?_eq_none] at hf
    rw [List.any_eq_true] at hk
    obtain ⟨p, h1, h2⟩ := hk
    exact absurd h2 (hf p h1)
  · have hm := List.mem_of_find?_eq_some hf
    have hs := List.find?_some hf
    obtain ⟨q, c, h1, h2, h3, h4⟩ := he p hm
    have e := same_eq hs
    refine ⟨q, c, h1, by rw [← e, h2], fun z => ?_, h4⟩
    rw [atKey_map, hf]
    exact h3
theorem Gd.none {ok : List Int → Prop} {D : DataW Unit} (h : Gd ok D) (hk : ∀ kl, Maps.has D kl = false) : D = .map [] := by
  obtain ⟨⟨es, rfl, hp⟩, he⟩ := h
  rcases es with _ | ⟨p, r⟩
  · rfl
  · obtain ⟨q, c, _, h2, _, _⟩ := he p (by simp [ents])
    have := hk p.1
    rw [has_eq, List.any_cons, h2, str_same] at this
    cases this
theorem wtL_size (g : Lit → Nat) : ∀ (es : List (Lit × DataW Unit)), (∀ p ∈ es, 1 ≤ g p.1 ∧ 1 ≤ valN p.2) → es.length ≤ wtL g es
  | [], _ => Nat.le_refl _
  | p :: r, h => by
    have h1 := h p (by simp)
    have h2 := wtL_size g r (fun q hq => h q (by simp [hq]))
    have h3 : 1 * 1 ≤ g p.1 * valN p.2 := Nat.mul_le_mul h1.1 h1.2
    rw [wtL_cons, List.length_cons]
    omega
theorem Gd.size {ok : List Int → Prop} {D : DataW Unit} (h : Gd ok D) (g : Lit → Nat) (hg : ∀ l, 1 ≤ g (.string l)) : Maps.size D ≤ wt g D := by
  obtain ⟨⟨es, rfl, hp⟩, he⟩ := h
  refine wtL_size g es fun p hp => ?_
  obtain ⟨q, c, _, h2, h3, h4⟩ := he p hp
  rw [h2, h3, valN_nd]
  exact ⟨hg _, h4⟩
theorem wt_nil (g : Lit → Nat) : wt g (.map []) = 0 := rfl

/-- What a key weighs: what its order does. -/
def gk (f : List Int → Nat) : Lit → Nat
  | .string l => f (rlL l)
  | _ => 0
theorem gk_text (f : List Int → Nat) {q : List Int} (h : Dig q) : gk f (.string (numsT q)) = f q := by
  show f (rlL (numsT q)) = f q
  unfold rlL
  rw [rl_nums h]
  rfl
/-- The orders below, each as often as the order itself. -/
def addAll (D : DataW Unit) (c : Nat) (q : List Int) (ds : List Int) : DataW Unit := ds.foldl (fun D d => addTo D (.string (numsT (exch q d.toNat))) c) D
theorem addAll_snoc (D : DataW Unit) (c : Nat) (q : List Int) (ds : List Int) (d : Int) : addAll D c q (ds ++ [d]) = addTo (addAll D c q ds) (.string (numsT (exch q d.toNat))) c := by simp [addAll, List.foldl_append]
theorem Gd.addAll {ok : List Int → Prop} {q : List Int} {c : Nat} (hc : 0 < c) : ∀ (ds : List Int) (D : DataW Unit), Gd ok D → (∀ d ∈ ds, ok (exch q d.toNat)) → Gd ok (addAll D c q ds)
  | [], D, h, _ => h
  | d :: r, D, h, hd => Gd.addAll hc r _ (h.add (hd d (by simp)) hc) (fun x hx => hd x (by simp [hx]))
theorem wt_addAll {ok : List Int → Prop} {q : List Int} {c : Nat} (hc : 0 < c) (g : Lit → Nat) : ∀ (ds : List Int) (D : DataW Unit), Gd ok D → (∀ d ∈ ds, ok (exch q d.toNat)) →
    wt g (Go.Proofs.YtgeeifjbfceogaaGreatDoor.addAll D c q ds) = wt g D + c * (ds.map fun d => g (.string (numsT (exch q d.toNat)))).sum
  | [], D, h, _ => by simp [Go.Proofs.YtgeeifjbfceogaaGreatDoor.addAll]
  | d :: r, D, h, hd => by
    have ih := wt_addAll hc g r (addTo D (.string (numsT (exch q d.toNat))) c) (h.add (hd d (by simp)) hc) (fun x hx => hd x (by simp [hx]))
    rw [wt_add h.1] at ih
    show wt g (Go.Proofs.YtgeeifjbfceogaaGreatDoor.addAll (addTo D (.string (numsT (exch q d.toNat))) c) c q r) = _
    rw [ih, List.map_cons, List.sum_cons, Nat.mul_add, Nat.mul_comm (g _) c]
    omega
end Go.Proofs.YtgeeifjbfceogaaGreatDoor
namespace Go.Proofs.YtgeeifjbfceogaaGreatDoor
open Go Go.RowKit Go.Maps

theorem cloneRI (A : Option Addr) (n c : Nat) (zs : List Int) (w : World) (h : RI w A n zs) (hn : n ≤ 1000000) (h0 : 0 < n) :
    Calls Tryz.prog 75 #[.slice A n c] w (FreshI w n zs) := by
  obtain ⟨b, off, rfl, hbw, hc⟩ := h.2 h0
  refine (slices_Clone_int b off n c zs w (by rw [h.1]; exact Nat.le_refl _) (by omega) (fun j hj => by have := hc j (by rw [← h.1]; exact hj); simpa [gi] using this)).mono ?_
  rintro e w' ⟨v', rfl, ho, _, hb⟩
  obtain ⟨A', c', rfl, ho'⟩ := OI.of_own (zs := zs) ho (by simp only [I]; rw [List.take_of_length_le (by rw [h.1]; exact Nat.le_refl _)])
  exact ⟨A', c', rfl, ho', hb⟩

set_option maxRecDepth 100000 in
set_option maxHeartbeats 2000000 in
theorem restBelow_any (A : Option Addr) (n c : Nat) (zs : List Int) (i : Nat) (w : World) (h : RI w A n zs) (hn : n ≤ 8) (hi : i + 1 < n) :
    Calls Tryz.prog 54 #[.slice A n c, .int .i64 (i : Int)] w (FreshI w n (exch zs i)) := by
  have hl := h.1
  go_enter Tryz.func54, Tryz.ntmps54
  go_wp2_with fail
  refine (cloneRI A n c zs _ h (by omega) (by omega)).mono ?_
  rintro e w1 ⟨A1, c1, rfl, o1, hb⟩
  obtain ⟨g, cur, rfl, hB, hg, _, hc1, _⟩ : ∃ g cur, A1 = some ⟨g, 0, none⟩ ∧ w.heap.size ≤ g ∧ g < w1.heap.size ∧ w1.heap[g]? = some (.cells cur 3 (0, 0)) ∧ n ≤ c1 ∧ True := by
    rcases o1.form with ⟨_, _, h0⟩ | ⟨g, cur, h1, h2, h3, h4, h5, _⟩
    · omega
    · exact ⟨g, cur, h1, h2, h3, h4, h5, trivial⟩
  have hck := o1.cells i (by omega)
  have hcp := o1.cells (i + 1) hi
  have fk : w1.frozen? ⟨g, i, none⟩ = false := o1.2.frozenAt i
  have fk1 : w1.frozen? ⟨g, i + 1, none⟩ = false := o1.2.frozenAt (i + 1)
  have HO : Hid (OI ((w1.setCell ⟨g, i, none⟩ (.int .i64 (gi zs (i + 1)))).setCell ⟨g, i + 1, none⟩ (.int .i64 (gi zs i))) w.heap.size (some ⟨g, 0, none⟩) n c1 (exch zs i)) := Lib.hid ((o1.stored i _).stored (i + 1) _)
  have HB : Hid (Below w.heap.size w w1) := Lib.hid hb
  clear o1 hb
  go_wp2
  go_region
  all_goals
    go_wp2
    go_ret
    exact ⟨_, _, rfl, HO.out, by repeat (first | exact HB.out | refine Below.setCell ?_ hB _ | refine below_drewN ?_ _ | refine Below.drew ?_)⟩

/-- Block b is a map from texts to numbers. -/
abbrev OM (w : World) (b n : Nat) (D : DataW Unit) : Prop := w.ownsMap Tryz.prog 9 (plainElem Tryz.prog 3) b n D
theorem keyK : Keyed Tryz.prog 9 := string_keyed Tryz.underlying9
theorem zeroEl (w : World) : (zeroValue 3).run Tryz.prog w = .ok (.int .i64 0) w := by kernel_rfl
theorem at0_of {ok : List Int → Prop} {D : DataW Unit} (h : Gd ok D) {kl : Lit} {c : Int} (ha : D.atKey kl (.lit (.int .i64 0)) = .lit (.int .i64 c)) : c = (at0 D kl : Int) := by
  unfold at0
  have e : nd 0 = .lit (.int .i64 0) := rfl
  rw [e, ha]
  rcases hk : Maps.has D kl with _ | _
  · rw [atKey_of_not_has hk] at ha
    injection ha with ha
    injection ha with _ ha
    subst ha
    rfl
  · obtain ⟨q, m, _, _, h3, _⟩ := h.at hk
    rw [h3] at ha
    injection ha with ha
    injection ha with _ ha
    subst ha
    simp [valN]

set_option maxRecDepth 100000 in
set_option maxHeartbeats 2000000 in
theorem clos_any {ok : List Int → Prop} (s : ByteArray) (hs : s.size ≤ 1000) (bx cb b n c : Nat) (D : DataW Unit) (w : World) (hown : OM w b n D) (hG : Gd ok D) (hn : n < maxLen)
    (hx : w.cell? ⟨bx, 0, none⟩ = some (.map (some b))) (hc : w.cell? ⟨cb, 0, none⟩ = some (.int .i64 (c : Int))) (hb : at0 D (.string s.data.toList) + c ≤ 4000000000000000000) :
    Calls Tryz.prog 71 #[.string s, .pointer (some ⟨bx, 0, none⟩), .pointer (some ⟨cb, 0, none⟩)] w
      (fun e w' => e = .returned (.tuple #[]) ∧ OM w' b (n + 1) (addTo D (.string s.data.toList) c) ∧ w.grownBy w' (some b)) := by
  have HO := Lib.hid hown
  have HG := Lib.hid hG
  have HN := Lib.hid hn
  obtain ⟨m, hm⟩ : ∃ m, m = at0 D (.string s.data.toList) := ⟨_, rfl⟩
  rw [← hm] at hb
  have HM := Lib.hid hm
  have hk : keyOf Tryz.prog 9 (.string s) = some (.string s.data.toList) := WideMaps.keyOf_string_mk Tryz.underlying9 (by unfold maxLen; omega)
  have hmi : (m : Int) ≤ 4000000000000000000 := by omega
  have hci : (c : Int) ≤ 4000000000000000000 := by omega
  have hw : IntKind.i64.wrap ((m : Int) + (c : Int)) = (m : Int) + (c : Int) := IntWalk.i64_in _ (by omega)
  have hwf : (Lit.int .i64 ((m : Int) + (c : Int))).wf = true := WalkArith.wf_i64 (by omega)
  clear hown hG hn hm
  go_enter Tryz.func71, Tryz.ntmps71
  go_wp2_with (first
    | (at_lookup; refine wpList_lookup_own_int _ rfl _ _ 79 rfl 9 3 .i64 keyK Tryz.underlying79 Tryz.underlying3 (zeroEl _) b n _ rfl HO.out _ _ rfl hk ?_; intro c0 hat hwc; obtain rfl : c0 = (m : Int) := (at0_of HG.out hat).trans (by rw [HM.out]); clear hat hwc)
    | (at_mapUpdate; refine wpList_mapUpdate_own _ rfl _ _ _ 79 rfl 9 3 keyK Tryz.underlying79 _ b n _ rfl HO.out HN.out _ _ _ rfl rfl hk _ [] (plainElem_int Tryz.underlying3 hwf) ?_; intro w1 hown1 hgrow1)
    | go_in)
  go_wp2
  refine bodyPost_end (v := .tuple #[]) (by simp [results, Tryz.results71, go_sem]) rfl ⟨rfl, ?_, hgrow1⟩
  have e : addTo D (.string s.data.toList) c = D.put (.string s.data.toList) (.lit (.int .i64 ((m : Int) + (c : Int)))) := by
    unfold addTo nd
    rw [← HM.out]
    simp
  rw [e]
  exact hown1
end Go.Proofs.YtgeeifjbfceogaaGreatDoor
namespace Go.Proofs.YtgeeifjbfceogaaGreatDoor
open Go Go.RowKit Go.Maps

theorem ord_perm {a b : List Int} (h : List.Perm a b) (ha : ord a = true) : ord b = true := by
  rw [ord_iff] at *
  obtain ⟨h1, h2, h3, h4⟩ := ha
  have e := h.length_eq
  exact ⟨by omega, by omega, fun x hx => by rw [← e]; exact h3 x (h.mem_iff.2 hx), h.nodup_iff.1 h4⟩
theorem ord_dig {q : List Int} (h : ord q = true) : Dig q := by
  obtain ⟨h1, h2, h3, _⟩ := ord_iff.1 h
  intro j hj
  have := h3 (gi q j) (mem_gi.2 ⟨j, hj, rfl⟩)
  omega
/-- Orders of n numbers. -/
def OKp (n : Nat) (q : List Int) : Prop := ord q = true ∧ q.length = n
theorem OKp.exch {n : Nat} {q : List Int} (h : OKp n q) {i : Nat} (hi : i + 1 < n) : OKp n (exch q i) :=
  ⟨ord_perm (exch_perm q i (by rw [h.2]; exact hi)).symm h.1, by rw [exch_length, h.2]⟩
theorem OKp.below {n : Nat} {q : List Int} (h : OKp n q) : ∀ d ∈ dscL q, OKp n (Go.Proofs.YtgeeifjbfceogaaGreatDoor.exch q d.toNat) := by
  intro d hd
  obtain ⟨i, rfl, h2, _⟩ := mem_dscL hd
  exact h.exch (by rw [← h.2]; exact h2)
theorem bs_list (l : List UInt8) : (bs l).data.toList = l := by simp [bs]
theorem rlL_nums {q : List Int} (h : Dig q) : rlL (numsT q) = q := by unfold rlL; rw [rl_nums h]; rfl
theorem gk0 (l : List UInt8) : gk (np 0) (.string l) = 1 := rfl
theorem wt0_addAll {n c : Nat} {q : List Int} {D : DataW Unit} (hq : OKp n q) (hG : Gd (OKp n) D) (hc : 0 < c) (k : Nat) : wt (gk (np 0)) (addAll D c q ((dscL q).take k)) ≤ wt (gk (np 0)) D + c * k := by
  rw [wt_addAll hc (gk (np 0)) ((dscL q).take k) D hG (fun d hd => hq.below d (List.mem_of_mem_take hd))]
  have h1 := sum_le ((dscL q).take k) (fun d => gk (np 0) (.string (numsT (exch q d.toNat)))) 1 (fun d _ => Nat.le_of_eq (gk0 _))
  have h2 : ((dscL q).take k).length ≤ k := by rw [List.length_take]; omega
  have h3 : c * (((dscL q).take k).map fun d => gk (np 0) (.string (numsT (exch q d.toNat)))).sum ≤ c * k := Nat.mul_le_mul_left c (by omega)
  omega

set_option maxRecDepth 100000 in
set_option maxHeartbeats 4000000 in
theorem eachRest_any (n : Nat) (q : List Int) (hq : OKp n q) (hn2 : 2 ≤ n) (hn : n ≤ 6)
    (hD : Hid (∀ (A : Option Addr) (c : Nat) (w : World), RI w A n q → n ≤ c → Calls Tryz.prog 92 #[.slice A n c] w (FreshIB w (dscL q).length (dscL q) true)))
    (bx cb b nb c : Nat) (D : DataW Unit) (w : World) (hGl : Glob w) (hown : OM w b nb D) (hG : Gd (OKp n) D) (hc0 : 0 < c) (hnb : nb ≤ 1000000000000)
    (hx : w.cell? ⟨bx, 0, none⟩ = some (.map (some b))) (hc : w.cell? ⟨cb, 0, none⟩ = some (.int .i64 (c : Int))) (hbx : bx ≠ b) (hcb : cb ≠ b)
    (hbl : bx < w.heap.size) (hcl : cb < w.heap.size) (hsum : wt (gk (np 0)) D + c * 6 ≤ 4000000000000000000) :
    Calls Tryz.prog 70 #[.string (bs (numsT q)), .func (.func 71) #[] #[.pointer (some ⟨bx, 0, none⟩), .pointer (some ⟨cb, 0, none⟩)]] w
      (fun e w' => e = .returned (.tuple #[]) ∧ OM w' b (nb + (dscL q).length) (addAll D c q (dscL q)) ∧ w.grownBy w' (some b)) := by
  have hdig := ord_dig hq.1
  have hl := hq.2
  have hdl : (dscL q).length ≤ 5 := by have := dscK_len q (q.length - 1); unfold dscL; omega
  have hsz : (bs (numsT q)).size ≤ 1000 := by rw [bs_size]; have := numsT_len hdig; omega
  have HRL := Lib.hid (readList_any (bs (numsT q)) w (by omega) hGl)
  rw [bs_list, rlL_nums hdig, rl_nums hdig, hl] at HRL
  have HQ := Lib.hid hq
  have HG := Lib.hid hG
  have hbw := hown.lt
  have HO := Lib.hid hown
  have HX := Lib.hid hx
  have HC := Lib.hid hc
  obtain ⟨s, hs⟩ : ∃ s, s = bs (numsT q) := ⟨_, rfl⟩
  rw [← hs] at HRL ⊢
  obtain ⟨m, hm⟩ : ∃ m, m = (dscL q).length := ⟨_, rfl⟩
  rw [← hm] at hD hdl ⊢
  have HM := Lib.hid hm
  clear hq hG hown hx hc hs hm hGl hdig hsz
  go_enter Tryz.func70, Tryz.ntmps70
  go_wp2_with fail
  refine HRL.out.mono ?_
  rintro e w1 ⟨A1, c1, rfl, o1, hb1⟩
  have hc1 := o1.le
  have HA1 := Lib.hid o1
  have HB1 := Lib.hid hb1
  clear o1 hb1 HRL
  go_wp2_with fail
  refine (hD.out A1 c1 _ HA1.out.ri hc1).mono ?_
  rintro e w2 ⟨A2, c2, rfl, o2, hb2⟩
  have HA2 := Lib.hid o2
  have HP := oiStep HA1 hb2
  have HB2 : Hid (Below w.heap.size w w2) := belStep HB1 hb2
  have HZ1 := Lib.hid HB1.out.size
  clear o2 hb2 HA1 HB1 hD
  go_wp2
  go_loopw [9, 22] (fun _ i wr => ∃ k : Nat, k ≤ m ∧ i = .int .i64 (k : Int) ∧ OM wr b (nb + k) (addAll D c q ((dscL q).take k)) ∧ w2.grownBy wr (some b)) (fun _ i _ => m - (intOf i).toNat)
  case atStart => exact ⟨0, Nat.zero_le _, rfl, HO.out.kept (grown_of_below HB2.out none) (by simp), grown_refl _ _⟩
  case round =>
    obtain ⟨k, hk, rfl, ho, hg⟩ := hrel
    have HOW := Lib.hid ho
    have HGW := Lib.hid hg
    clear ho hg
    by_cases hlt : k < m
    · have r1 : RI wr A1 n q := HP.out.ri.kept HGW.out (fun b' hb' e => by have := (HP.out.blk b' hb').1; injection e with e; omega)
      have r2 : RI wr A2 m (dscL q) := HA2.out.ri.kept HGW.out (fun b' hb' e => by have := (HA2.out.blk b' hb').1; have := HZ1.out; injection e with e; omega)
      obtain ⟨b2, off, rfl, _, hcell⟩ := r2.cell hlt
      have hck := hcell k hlt
      obtain ⟨d, hd⟩ : ∃ d, d = gi (dscL q) k := ⟨_, rfl⟩
      have hmem : d ∈ dscL q := mem_gi.2 ⟨k, by rw [← HM.out]; exact hlt, hd.symm⟩
      obtain ⟨i, hdi, hi1, hi2⟩ := mem_dscL hmem
      rw [← hd, hdi] at hck
      rw [hl] at hi1
      have HE := Lib.hid (HQ.out.exch hi1)
      have HK : Hid ((dscL q).take (k + 1) = (dscL q).take k ++ [(i : Int)]) := by
        show _ = _
        have hkl : k < (dscL q).length := by rw [← HM.out]; exact hlt
        rw [List.take_add_one, List.getElem?_eq_getElem hkl, ← gi_lt hkl, ← hd, hdi]
        rfl
      have HR1 := Lib.hid r1
      have hxw : wr.cell? ⟨bx, 0, none⟩ = some (.map (some b)) := HGW.out.cell ((HB2.out.cell (p := ⟨bx, 0, none⟩) hbl).trans HX.out) (by simp; exact hbx)
      have hcw : wr.cell? ⟨cb, 0, none⟩ = some (.int .i64 (c : Int)) := HGW.out.cell ((HB2.out.cell (p := ⟨cb, 0, none⟩) hcl).trans HC.out) (by simp; exact hcb)
      have HXW := Lib.hid hxw
      have HCW := Lib.hid hcw
      have hzw : bx < wr.heap.size ∧ cb < wr.heap.size := by have := HB2.out.size; have := HGW.out.size; omega
      clear hcell hd hmem hdi hi2 r1 r2 hxw hcw
      go_wp2_with fail
      refine (restBelow_any A1 n c1 q i _ HR1.out (by omega) hi1).mono ?_
      rintro e w5 ⟨A5, c5, rfl, o5, hb5⟩
      have HO5 := Lib.hid o5
      have HB5 := Lib.hid hb5
      clear o5 hb5
      go_wp2_with fail
      refine (listText_any A5 n c5 (exch q i) _ HO5.out.ri (by omega) (ord_dig HE.out.1)).mono ?_
      rintro e w6 ⟨rfl, hb6⟩
      have HB6 : Hid (Below wr.heap.size wr w6) := belStep HB5 hb6
      clear hb6 HB5 HO5
      have HOM : Hid (OM w6 b (nb + k) (addAll D c q ((dscL q).take k))) := Lib.hid (HOW.out.kept (grown_of_below HB6.out none) (by simp))
      have HGd : Hid (Gd (OKp n) (addAll D c q ((dscL q).take k))) := Lib.hid (HG.out.addAll hc0 _ _ (fun d hd => HQ.out.below d (List.mem_of_mem_take hd)))
      have hsz : (bs (numsT (exch q i))).size ≤ 1000 := by rw [bs_size]; have := numsT_len (ord_dig HE.out.1); have := HE.out.2; omega
      have hat : at0 (addAll D c q ((dscL q).take k)) (.string (bs (numsT (exch q i))).data.toList) + c ≤ 4000000000000000000 := by
        have h1 := at0_le HGd.out.1 (gk (np 0)) (.string (bs (numsT (exch q i))).data.toList)
        rw [gk0, Nat.one_mul] at h1
        have h2 := wt0_addAll HQ.out HG.out hc0 k
        have h3 : c * k + c ≤ c * 6 := by rw [← Nat.mul_succ]; exact Nat.mul_le_mul_left c (by omega)
        omega
      have HCL := Lib.hid (clos_any (bs (numsT (exch q i))) hsz bx cb b (nb + k) c _ w6 HOM.out HGd.out (by unfold maxLen; omega) ((HB6.out.cell (p := ⟨bx, 0, none⟩) hzw.1).trans HXW.out) ((HB6.out.cell (p := ⟨cb, 0, none⟩) hzw.2).trans HCW.out) hat)
      rw [bs_list] at HCL
      clear hsz hat HOM HGd
      go_wp2_with fail
      refine HCL.out.mono ?_
      rintro e w7 ⟨rfl, ho7, hg7⟩
      have HO7 := Lib.hid ho7
      have HG7 : Hid (w2.grownBy w7 (some b)) := Lib.hid ((HGW.out.trans (grown_of_below HB6.out (some b))).trans hg7)
      clear ho7 hg7 HCL
      go_wp2
      go_roundw
      case rel => exact ⟨k + 1, by omega, by go_num, by rw [HK.out, addAll_snoc]; exact HO7.out, HG7.out⟩
      case measure => simp [intOf]; omega
    · obtain rfl : k = m := by omega
      go_wp2
      refine bodyPost_end (v := .tuple #[]) (by simp [results, Tryz.results70, go_sem]) rfl ⟨rfl, ?_, ?_⟩
      · have e : (dscL q).take k = dscL q := by rw [HM.out]; exact List.take_length
        have := HOW.out
        rw [e] at this
        exact this
      · exact (grown_of_below HB2.out (some b)).trans HGW.out
end Go.Proofs.YtgeeifjbfceogaaGreatDoor
