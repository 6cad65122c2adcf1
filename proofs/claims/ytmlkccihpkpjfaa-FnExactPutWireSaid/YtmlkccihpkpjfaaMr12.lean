/- PutWire, of the program. -/
import Derived.Test.YtmlkccihpkpjfaaMr11
namespace Go.Proofs.Ytmlkccihpkpjfaa
open Go Go.RowKit

/-- block b holds one value -/
structure Cell1M (w : World) (b : Nat) (v : Value) : Prop where
  c0 : w.cell? ⟨b, 0, none⟩ = some v
  f0 : w.frozen? ⟨b, 0, none⟩ = false
  lt : b < w.heap.size
theorem c1mStep {wi wj : World} {b : Nat} {v : Value} (h : Hid (Cell1M wi b v)) (hb : Below wi.heap.size wi wj) : Hid (Cell1M wj b v) :=
  ⟨(hb.cell (p := ⟨b, 0, none⟩) h.out.lt).trans h.out.c0, (hb.frozen (p := ⟨b, 0, none⟩) h.out.lt).trans h.out.f0, Nat.lt_of_lt_of_le h.out.lt hb.size⟩
theorem c1mNew (wi : World) (v : Value) (t : TypeId) : Hid (Cell1M (wi.alloc (.cells #[v] t)) wi.heap.size v) :=
  ⟨by simp, by simp [go_sem], by simp⟩
theorem c1mAlloc {wi : World} {b : Nat} {v : Value} (h : Hid (Cell1M wi b v)) (o : Obj) : Hid (Cell1M (wi.alloc o) b v) := c1mStep h ((Below.refl _ _).alloc (Nat.le_refl _) o)
theorem c1mDrew {wi : World} {b : Nat} {v : Value} (h : Hid (Cell1M wi b v)) : Hid (Cell1M wi.drew b v) := ⟨h.out.c0, h.out.f0, h.out.lt⟩

/-- what is known of the frame and of the world where a panic goes through the door -/
def PwQ (w1 : World) (p q : Addr) (D : List Deferred) (ch : List PanicEntry) : Exit → Act → World → Prop := fun e z w' => e = .panic ch ∧ z.tmps[4]? = some (.pointer (some p)) ∧ z.tmps[5]? = some (.pointer (some q)) ∧ z.defers = D ∧ Below w1.heap.size w1 w'
theorem PwQ.put {w1 : World} {p q : Addr} {D : List Deferred} {ch : List PanicEntry} {e : Exit} {a : Act} {w : World} {d : Nat} {v : Value} (h4 : d ≠ 4) (h5 : d ≠ 5) (h : PwQ w1 p q D ch e (a.put (some d) v) w) : PwQ w1 p q D ch e a w := by
  obtain ⟨he, z4, z5, zd, hb⟩ := h
  refine ⟨he, ?_, ?_, zd, hb⟩
  · simpa [Act.put, Array.getElem?_setIfInBounds, h4] using z4
  · simpa [Act.put, Array.getElem?_setIfInBounds, h5] using z5

set_option maxRecDepth 100000 in
set_option maxHeartbeats 4000000 in
theorem iPutWire_cut (W : Int) (A : Option Addr) (n c : Nat) (zs : List Int) (a : Int) (w : World) (h : RI w A n zs) (hn : n ≤ 1048576) (hq : lad W zs = true) (ha : 0 ≤ a ∧ a ≤ W) (hh : hasM zs (a - 1) = true) :
    Calls Try.prog 24 #[.agg #[.int .i64 W, .slice A n c], .int .i64 a] w (FreshLB w (ifW (pwtB W zs a) (W + 1)) (ifL (pwtB W zs a) (putL zs a)).length (ifL (pwtB W zs a) (putL zs a)) (pwtB W zs a)) := by
  have hl := h.1
  have hmf : ∀ (fn : Fn) (first cap : Array Value) (w : World), (Instr.makeFunc fn first cap).run Try.prog w = .ok (.func fn first cap) w := fun _ _ _ _ => rfl
  have HA := boxAlloc (boxAlloc (boxNew (W := W) (c := c) 26 h) (.cells #[.int .i64 0, .slice none 0 0] 26)) (.cells #[.bool false] 4)
  have HB := belAlloc (belAlloc (belAlloc (belRefl (w := w)) (.cells #[.int .i64 W, .slice A n c] 26)) (.cells #[.int .i64 0, .slice none 0 0] 26)) (.cells #[.bool false] 4)
  have HC := cellAlloc (cellNew (w.alloc (.cells #[.int .i64 W, .slice A n c] 26)) (.int .i64 0) (.slice none 0 0) 26) (.cells #[.bool false] 4)
  have HD := c1mNew ((w.alloc (.cells #[.int .i64 W, .slice A n c] 26)).alloc (.cells #[.int .i64 0, .slice none 0 0] 26)) (.bool false) 4
  simp only [World.size_alloc] at HC HD
  have HI := Lib.hid (fun w2 (r : RI w2 A n zs) => iIsLadder_any W A n c zs w2 r hn)
  rw [hq] at HI
  have hW := (lad_iff.1 hq).1
  have hn60 : n ≤ 60 := by have := (lad_iff.1 hq).2.1; omega
  have hsm : ∀ j, j < n → -1000 ≤ gi zs j ∧ gi zs j ≤ 1000 := fun j hj => by have := lad_at hq (j := j) (by omega); omega
  obtain ⟨V, hV⟩ : ∃ V, V = W + 1 := ⟨_, rfl⟩
  have hwv : IntKind.i64.wrap (W + 1) = V := by rw [IntWalk.i64_in _ (by omega), hV]
  have HV := Lib.hid hV
  rw [pwt_3 hh, ifW_no, ifL_no]
  have HMR := Lib.hid (fun w2 (r : RI w2 A n zs) => madeRoom_no A n c zs a w2 r hn (by omega) hsm hh)
  clear hq h hh hV hsm
  go_enter_defers Try.func24, Try.ntmps24
  have a0 := HA.out.c0; have a1 := HA.out.c1; have az := HA.out.lt
  go_wp2_with fail
  refine (HI.out _ HA.out.ri).mono ?_
  rintro e w1 ⟨rfl, hb⟩
  replace HA := boxStep HA hb; replace HB := belStep HB hb; replace HC := cellStep HC hb; replace HD := c1mStep HD hb
  replace a0 := HA.out.c0; replace a1 := HA.out.c1; replace az := HA.out.lt
  have hz1 := HD.out.lt
  clear hb
  go_wp2_with fail
  have HAD := boxDrew HA; have HBD := belDrew HB; have HCD := cellDrew HC; have HDD := c1mDrew HD
  have b0 := HAD.out.c0; have b1 := HAD.out.c1
  have LD : ∀ (w' : World) (z : Act), z.tmps[4]? = some (.pointer (some ⟨w.heap.size + 1, 0, none⟩)) → z.tmps[5]? = some (.pointer (some ⟨w.heap.size + 1 + 1, 0, none⟩)) → Below w1.drew.heap.size w1.drew w' →
      Leaves Try.prog Try.f24 z.tmps (FreshLB w 0 0 [] false) [{ target := .fn (.func 54) #[.pointer (some ⟨w.heap.size + 1, 0, none⟩), .pointer (some ⟨w.heap.size + 1 + 1, 0, none⟩)], args := #[] }] (.panicking [{ v := .iface 58 (.agg #[]), recovered := false }]) w' := by
    intro w' z z4 z5 hb
    have HB6 := belStep HBD hb; have HC6 := cellStep HCD hb; have HD6 := c1mStep HDD hb
    have hz6 := hb.size
    refine leaves_cons (f := 54) (args := #[.pointer (some ⟨w.heap.size + 1, 0, none⟩), .pointer (some ⟨w.heap.size + 1 + 1, 0, none⟩)]) (by simp) (by simp [go_sem]) ?_
    refine (pwCatch _ _ _ _ _ [] _ HC6.out.lt HD6.out.lt (by omega) HC6.out.c0 HC6.out.c1 HD6.out.c0 HC6.out.f0 HC6.out.f1 HD6.out.f0).mono ?_
    rintro e u' w9 ⟨rfl, rfl, rfl⟩
    have HB7 := belAlloc HB6 (.cells #[] 58)
    have HC7 := cellAlloc HC6 (.cells #[] 58)
    have HD7 := c1mAlloc HD6 (.cells #[] 58)
    have k0 := HC7.out.c0; have k1 := HC7.out.c1; have d0 := HD7.out.c0
    obtain ⟨v, hv⟩ : ∃ v, v = w'.alloc (.cells #[] 58) := ⟨_, rfl⟩
    rw [← hv] at HB7 k0 k1 d0 ⊢
    have HB := HB7
    exact ⟨.tuple #[.agg #[.int .i64 0, .slice none 0 0], .bool false], by simp [results, Try.results24, go_sem, k0, k1, d0, z4, z5], none, 0, rfl, OI.none_ _ _, (by repeat (first | exact Below.refl _ _ | exact HB.out | refine Below.setCell ?_ (by simp <;> omega) _ | refine Below.alloc ?_ (by simp <;> omega) _ | refine below_drewN ?_ _))⟩
  refine Code.wp_mono (Q := PwQ w1.drew ⟨w.heap.size + 1, 0, none⟩ ⟨w.heap.size + 1 + 1, 0, none⟩ [{ target := .fn (.func 54) #[.pointer (some ⟨w.heap.size + 1, 0, none⟩), .pointer (some ⟨w.heap.size + 1 + 1, 0, none⟩)], args := #[] }] [{ v := .iface 58 (.agg #[]), recovered := false }]) ?_ ?_
  · rintro e z w' ⟨rfl, z4, z5, zd, hb⟩
    show Leaves _ _ z.tmps _ z.defers _ w'
    rw [zd]
    exact LD w' z z4 z5 hb
  · refine wp_region_any (by kernel_rfl) ?_
    try (change wpAny _ _ _ _ _ _ _ (World.drew _))
    clear LD
    refine wpAny_take (i := 0) (v := ?_) rfl (by kernel_rfl) (by kernel_rfl) (by kernel_rfl) (fun _ _ _ h => PwQ.put (by decide) (by decide) h) (Or.inl ⟨by rfl, by intro w; go_simp; with_reducible rfl⟩) ?_
    refine wpAny_take (i := 3) (v := ?_) rfl (by kernel_rfl) (by kernel_rfl) (by kernel_rfl) (fun _ _ _ h => PwQ.put (by decide) (by decide) h) (Or.inl ⟨by rfl, by intro w; go_simp; with_reducible rfl⟩) ?_
    refine wpAny_take (i := 5) (v := ?_) rfl (by kernel_rfl) (by kernel_rfl) (by kernel_rfl) (fun _ _ _ h => PwQ.put (by decide) (by decide) h) (Or.inl ⟨by rfl, by intro w; go_simp; with_reducible rfl⟩) ?_
    refine wpAny_ready (rs := [1, 4]) (by kernel_rfl) (by simp) ?_
    refine AllReady.cons rfl (fun K hK => ?_) (AllReady.cons rfl (fun K hK => ?_) AllReady.nil)
    · go_simp
      refine hK _ _ ?_
      clear hK K
      refine wpAny_take (i := 2) (v := ?_) rfl (by kernel_rfl) (by kernel_rfl) (by kernel_rfl) (fun _ _ _ h => PwQ.put (by decide) (by decide) h) (Or.inl ⟨by rfl, by intro w; go_simp; with_reducible rfl⟩) ?_
      refine wpAny_ready (rs := [4]) (by kernel_rfl) (by simp) ?_
      refine AllReady.cons rfl (fun K hK => ?_) AllReady.nil
      go_simp
      refine hK _ _ ?_
      clear hK K
      refine wpAny_ready (rs := [6]) (by kernel_rfl) (by simp) ?_
      refine AllReady.cons rfl (fun K hK => ?_) AllReady.nil
      go_simp
      refine (HMR.out _ HAD.out.ri).mono ?_
      rintro e w6 ⟨rfl, hb⟩
      exact ⟨rfl, by rfl, by rfl, by rfl, hb⟩
    · go_simp
      refine hK _ _ ?_
      clear hK K
      refine wpAny_ready (rs := [1, 6]) (by kernel_rfl) (by simp) ?_
      refine AllReady.cons rfl (fun K hK => ?_) (AllReady.cons rfl (fun K hK => ?_) AllReady.nil)
      · go_simp
        refine hK _ _ ?_
        clear hK K
        refine wpAny_take (i := 2) (v := ?_) rfl (by kernel_rfl) (by kernel_rfl) (by kernel_rfl) (fun _ _ _ h => PwQ.put (by decide) (by decide) h) (Or.inl ⟨by rfl, by intro w; go_simp; with_reducible rfl⟩) ?_
        refine wpAny_ready (rs := [6]) (by kernel_rfl) (by simp) ?_
        refine AllReady.cons rfl (fun K hK => ?_) AllReady.nil
        go_simp
        refine (HMR.out _ HAD.out.ri).mono ?_
        rintro e w6 ⟨rfl, hb⟩
        exact ⟨rfl, by rfl, by rfl, by rfl, hb⟩
      · go_simp
        refine (HMR.out _ HAD.out.ri).mono ?_
        rintro e w6 ⟨rfl, hb⟩
        exact ⟨rfl, by rfl, by rfl, by rfl, hb⟩
end Go.Proofs.Ytmlkccihpkpjfaa
