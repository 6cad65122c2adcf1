/- below: what is left of a turned order below a rung at the top, by the program. -/
import Derived.Test.YtpkdeoehfnnchaaLq3
import Derived.Test.YtpkdeoehfnnchaaTo4
import Derived.Test.YtpkdeoehfnnchaaLq5
import Derived.Deep.RegionHeld3
import Derived.Laws.EntriesVeiled
namespace Go.Proofs.Ytpkdeoehfnnchaa
open Go Go.RowKit

/-- a block of one cell -/
def FB (w : World) (b : Nat) (v : Value) : Prop := ∃ t, w.heap[b]? = some (.cells #[v] t (0, 0))
section
variable {w wi wj : World} {b b' K : Nat} {u v v' : Value}
theorem FB.new' (w : World) (v : Value) (t : TypeId) {b : Nat} (hb : b = w.heap.size) : FB (w.alloc (.cells #[v] t)) b v := by subst hb; exact ⟨t, heap_alloc_new w _⟩
theorem FB.lt (h : FB w b v) : b < w.heap.size := by obtain ⟨t, e⟩ := h; exact (Array.getElem?_eq_some_iff.1 e).1
theorem FB.below (h : FB wi b v) (hb : Below wi.heap.size wi wj) : FB wj b v := by
  have hl := h.lt
  obtain ⟨t, e⟩ := h
  exact ⟨t, (hb.block b hl).trans e⟩
theorem FB.alloc (h : FB wi b v) (o : Obj) : FB (wi.alloc o) b v := h.below ((Below.refl _ _).alloc (Nat.le_refl _) o)
theorem FB.drewU (h : FB w b v) : FB w.drew b v := h
theorem FB.cell (h : FB w b v) : w.cell? ⟨b, 0, none⟩ = some v := by obtain ⟨t, e⟩ := h; simp [World.cell?, e]
theorem FB.frozen (h : FB w b v) : w.frozen? ⟨b, 0, none⟩ = false := by obtain ⟨t, e⟩ := h; simp [World.frozen?, e]
theorem FB.set (h : FB w b v) (v' : Value) : FB (w.setCell ⟨b, 0, none⟩ v') b v' := by
  obtain ⟨t, e⟩ := h
  rw [setCell_eq_setRow w b 0 _ _ _ v' e]
  exact ⟨t, setRow_heap w b _ _ _ _ e⟩
theorem FB.other (h : FB w b v) (hne : b ≠ b') (u : Value) : FB (w.setCell ⟨b', 0, none⟩ u) b v := by
  obtain ⟨t, e⟩ := h
  exact ⟨t, (Below.heap_setCell w ⟨b', 0, none⟩ u b hne).trans e⟩
theorem FB.ne (h : FB w b v) (q : Cell2 w b' u v') : b' ≠ b := by
  obtain ⟨t, e⟩ := h
  intro e1
  subst e1
  have h1 := q.c1
  simp [World.cell?, e] at h1
end
theorem cellAway {w : World} {b b' : Nat} {x y : Value} (h : Cell2 w b x y) (hp : b ≠ b') (u : Value) : Cell2 (w.setCell ⟨b', 0, none⟩ u) b x y := cellFar h ⟨b', 0, none⟩ (fun e => hp e.symm) u
theorem cellPast {w : World} {b b' : Nat} {x y z : Value} (hF : FB w b' z) (h : Cell2 w b x y) (u : Value) : Cell2 (w.setCell ⟨b', 0, none⟩ u) b x y := cellAway h (hF.ne h) u

def FnT (A : Option Addr) (n c : Nat) (E : Option Addr) (m d : Nat) (w : World) (e : Ending) (w' : World) : Prop :=
  ∃ f : Nat, e = .returned (.func (.func 50) #[] #[.pointer (some ⟨f, 0, none⟩)]) ∧ Cell2 w' f (.slice A n c) (.slice E m d) ∧ Below w.heap.size w w'
theorem tellF_any (A : Option Addr) (n c : Nat) (E : Option Addr) (m d : Nat) (w : World) :
    Calls Try.prog 43 #[.agg #[.slice A n c, .slice E m d]] w (FnT A n c E m d w) := by
  refine (teller_any A n c E m d w).mono ?_
  rintro e w' ⟨h1, h2, h3⟩
  exact ⟨_, h1, h2, h3⟩

set_option maxRecDepth 100000 in
set_option maxHeartbeats 2000000 in
theorem below_any (A : Option Addr) (n c : Nat) (zs : List Int) (E : Option Addr) (d : Nat) (us : List Int) (r : Nat) (w : World) (h : RI w A n zs) (g : RI w E n us)
    (hn : 3 ≤ n ∧ n ≤ 8) (hr : r < n) (hu : ∀ j, j < n → -20 ≤ gi us j ∧ gi us j ≤ 20) (ht : trn (topE zs r (nxtR n r)) (topW us r (nxtR n r) (wndR n r)) = true) :
    Calls Try.prog 32 #[.agg #[.slice A n c, .slice E n d], .int .i64 (r : Int)] w (LeftQ w n (topE zs r (nxtR n r)) (topW us r (nxtR n r) (wndR n r))) := by
  have R1 : Hid (RB w w.heap.size A n zs) := RB.of_ri h
  have R2 : Hid (RB w w.heap.size E n us) := RB.of_ri g
  have HBT := Lib.hid (fun (b5 b3 b2 f i : Nat) (w2 : World) c5 c3 l5 l3 q2 qf (hb : Below w.heap.size w w2) (hi : i < n) => belowTell_any b5 b3 b2 f A n c zs E d us r i w2 c5 c3 l5 l3 q2 qf (rbK R1 hb) (rbK R2 hb) hn hi hr hu)
  have hlE : (topE zs r (nxtR n r)).length = n := by rw [topE_len]; exact h.1
  have hlW : (topW us r (nxtR n r) (wndR n r)).length = n := by rw [topW_len]; exact g.1
  obtain ⟨ZE, hZE⟩ : ∃ Z, Z = topE zs r (nxtR n r) := ⟨_, rfl⟩
  obtain ⟨ZW, hZW⟩ : ∃ Z, Z = topW us r (nxtR n r) (wndR n r) := ⟨_, rfl⟩
  rw [← hZE, ← hZW] at HBT ht ⊢
  rw [← hZE] at hlE
  rw [← hZW] at hlW
  have HTO := Lib.hid (fun (b5 b3 b2 : Nat) (w2 : World) hT => (by
    have := turnedOf_below n ZE ZW b5 b3 b2 w2 hn hlE hlW hT
    rw [ht, ifL_yes, ifL_yes, hlE, hlW] at this
    exact this : Calls Try.prog 36 #[.int .i64 (n : Int), .func (.func 44) #[] #[.pointer (some ⟨b5, 0, none⟩), .pointer (some ⟨b3, 0, none⟩), .pointer (some ⟨b2, 0, none⟩)]] w2 (FreshTB w2 n ZE n ZW true)))
  clear h g hu ht hlE hlW hZE hZW hr hn
  go_enter Try.func32, Try.ntmps32
  go_wp2_with fail
  obtain ⟨w0, hw0⟩ : ∃ w0, w0 = ((w.alloc (.cells #[.slice A n c, .slice E n d] 30)).alloc (.cells #[.int .i64 (r : Int)] 3)).alloc (.cells #[.slice none 0 0, .slice none 0 0] 30) := ⟨_, rfl⟩
  have HA : Hid (Cell2 w0 w.heap.size (.slice A n c) (.slice E n d)) := by rw [hw0]; exact cellAlloc (cellAlloc (cellNew w _ _ 30) _) _
  have H3 : Hid (FB w0 (w.heap.size + 1) (.int .i64 (r : Int))) := by rw [hw0]; exact (FB.new' (w.alloc (.cells #[.slice A n c, .slice E n d] 30)) _ 3 (by simp)).alloc _
  have HC : Hid (Cell2 w0 (w.heap.size + 1 + 1) (.slice none 0 0) (.slice none 0 0)) := by
    have h1 := cellNew ((w.alloc (.cells #[.slice A n c, .slice E n d] 30)).alloc (.cells #[.int .i64 (r : Int)] 3)) (.slice none 0 0) (.slice none 0 0) 30
    simp only [World.size_alloc] at h1
    rw [hw0]; exact h1
  have HB : Hid (Below w.heap.size w w0) := by rw [hw0]; exact belAlloc (belAlloc (belAlloc belRefl _) _) _
  rw [← hw0]
  clear hw0
  refine (tellF_any A n c E n d _).mono ?_
  rintro e w1 ⟨f, rfl, qf, hb⟩
  have l0 := HC.out.lt
  replace H3 : Hid (FB w1 (w.heap.size + 1) (.int .i64 (r : Int))) := H3.out.below hb
  replace HA := cellStep HA hb
  replace HC := cellStep HC hb
  replace HB := belStep HB hb
  have QF := Lib.hid qf
  have s1 := hb.size
  have a0 := HA.out.c0; have a1 := HA.out.c1
  have hz0 : w.heap.size < w1.heap.size := by omega
  clear hb qf
  go_wp2_with fail
  obtain ⟨b5, hb5⟩ : ∃ b5, b5 = w1.heap.size := ⟨_, rfl⟩
  obtain ⟨w2, hw2⟩ : ∃ w2, w2 = w1.alloc (.cells #[.func (.func 50) #[] #[.pointer (some ⟨f, 0, none⟩)]] 56) := ⟨_, rfl⟩
  have HF : Hid (FB w2 b5 (.func (.func 50) #[] #[.pointer (some ⟨f, 0, none⟩)])) := by rw [hw2]; exact FB.new' _ _ _ hb5
  have hba : Below w1.heap.size w1 w2 := by rw [hw2]; exact allocBel _ _
  replace HA := cellStep HA hba
  replace HC := cellStep HC hba
  replace HB := belStep HB hba
  replace QF := cellStep QF hba
  replace H3 : Hid (FB w2 (w.heap.size + 1) (.int .i64 (r : Int))) := H3.out.below hba
  rw [← hw2]
  try rw [← hb5]
  have hz2 : w.heap.size + 1 + 1 < w2.heap.size := by have := hba.size; omega
  clear hw2 hb5 hba a0 a1
  refine (HTO.out b5 (w.heap.size + 1) w.heap.size w2 (Lib.hid fun i w' hi hb => HBT.out b5 (w.heap.size + 1) w.heap.size f i w' (HF.out.below hb).cell (H3.out.below hb).cell (HF.out.below hb).lt (H3.out.below hb).lt (cellStep HA hb).out (cellStep QF hb).out (HB.out.trans (hb.mono HB.out.size)) hi)).mono ?_
  rintro e w3 ⟨A9, c9, E9, d9, mid, rfl, o1, o2, hb⟩
  replace HB := belStep HB hb
  replace HC := cellStep HC hb
  have O1 := Lib.hid o1; have O2 := Lib.hid o2
  have k0 := HC.out.c0; have k1 := HC.out.c1; have f0 := HC.out.f0; have f1 := HC.out.f1; have hz := HC.out.lt
  clear hb o1 o2 HTO HBT
  go_wp2
  have HE := cellAlloc (Lib.hid (cellSet2 HC.out (.slice A9 n c9) (.slice E9 n d9))) (.cells #[.slice A9 n c9, .slice E9 n d9] 30)
  have q0 := HE.out.c0; have q1 := HE.out.c1
  exact bodyPost_ret (v := .agg #[.slice A9 n c9, .slice E9 n d9]) (by simp [results, Try.results32, go_sem, q0, q1]) rfl
    ⟨A9, c9, E9, d9, rfl, (((O1.out.setBelow (p := ⟨w.heap.size + 1 + 1, 0, none⟩) hz2 _).setBelow (p := ⟨w.heap.size + 1 + 1, 1, none⟩) hz2 _).alloc _).ri, (((O2.out.setBelow (p := ⟨w.heap.size + 1 + 1, 0, none⟩) (Nat.lt_of_lt_of_le hz2 O1.out.le) _).setBelow (p := ⟨w.heap.size + 1 + 1, 1, none⟩) (Nat.lt_of_lt_of_le hz2 O1.out.le) _).alloc _).ri, (fun b hb => by have h1 := (O1.out.of.low b hb).1; omega), (fun b hb => by have h1 := (O2.out.of.low b hb).1; have h2 := O1.out.le; omega), (by repeat (first | exact Below.refl _ _ | exact HB.out | refine Below.setCell ?_ (by simp <;> omega) _ | refine Below.alloc ?_ (by simp <;> omega) _ | refine below_drewN ?_ _))⟩
end Go.Proofs.Ytpkdeoehfnnchaa
