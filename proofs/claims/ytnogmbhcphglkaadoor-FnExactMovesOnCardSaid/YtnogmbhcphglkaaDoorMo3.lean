/- The contract of MovesOn's model. -/
import Derived.Test.YtnogmbhcphglkaaDoorMo1
import Derived.Test.YtnogmbhcphglkaaDoorTwb
import Derived.Deep.RegionLaw
import Derived.Deep.Cut
namespace Go.Proofs.YtnogmbhcphglkaaDoor
open Go Go.RowKit

/-- a call of a function of one argument by its contract, as one step of a region that draws -/
theorem step_call1 {ops : Array Oper} {o : Oper} {a : Act} {K : Act → World → Prop} {Q : Exit → Act → World → Prop} {E : Prop} (w : World) (hgd : o.guard = none) (f : FuncId) (x : Operand) (t : TypeId)
    (ho : o.op = .call { callee := .value (.func f), args := #[x], argTypes := #[t] }) (hcf : (callFunc f #[a.eval x]).run Tryd.prog w = .ok (.enter f #[a.eval x]) w) (v : Value) (hx : a.eval x = v) (R : Ending → World → Prop) (hc : Calls Tryd.prog f #[v] w R)
    (h : ∀ e w', R e w' → ∃ u, e = .returned u ∧ K (a.put o.dst u) w') : if Region.wanted o (yielded ops a.tmps) = true then Oper.wp Tryd.prog o a w K Q else E := by
  have hw : Region.wanted o (yielded ops a.tmps) = true := by simp [Region.wanted, hgd]
  rw [if_pos hw]
  unfold Oper.wp
  have hrun : (execOp a.eval o).run Tryd.prog w = .ok (.enter f #[v]) w := by
    have he : a.eval (.func f) = .func (.func f) #[] #[] := rfl
    rw [hx] at hcf
    simp [execOp, ho, resolve, invoke, hx, he, Deferred.ofValue, hcf]
  rw [hrun, Oper.upon_enter]
  refine hc.mono fun e w' hh => ?_
  obtain ⟨u, rfl, hk⟩ := h e w' hh
  exact hk

set_option maxRecDepth 100000 in
set_option maxHeartbeats 4000000 in
theorem lsMoves_any (W : Int) (A : Option Addr) (n c : Nat) (zs : List Int) (w : World) (h : RI w A n zs) (hn : n ≤ 60) (hnc : n ≤ c) (hq : lad W zs = true) :
    Calls Tryd.prog 25 #[.agg #[.int .i64 W, .slice A n c]] w (fun e w' => ∃ A1 c1, e = .returned (.slice A1 (mvK zs n 3).length c1) ∧ OT w' w.heap.size A1 (mvK zs n 3).length c1 (mvK zs n 3) ∧ Below w.heap.size w w') := by
  have HB := belAlloc (belRefl (w := w)) (.cells #[.int .i64 W, .slice A n c] 29)
  have HA := boxNew (W := W) (c := c) 29 h
  have HM : Hid (∀ k, k < 3 → ∀ a : Nat, ∃ (V : Int) (m : Nat) (ys : List Int), ∀ (A : Option Addr) (w : World), RI w A n zs → Calls Tryd.prog 34 #[.agg #[.int .i64 W, .slice A n c], .int .u8 ((kb k).toNat : Int), .int .i64 (a : Int)] w (FreshLB w V m ys (mvOk zs k a))) := fun k hk a =>
    ⟨_, _, _, fun A w h => by
      have := lsMake_all W A n c zs (kb k) a w h (by omega) hnc
      rw [show mmQ W zs (kb k) a = mvOk zs k a by unfold mmQ mvOk; rw [hq]; rfl] at this
      exact this⟩
  clear hq h
  go_enter Tryd.func25, Tryd.ntmps25
  go_wp2
  have HQ0 : Hid (Below w.heap.size w ((w.alloc (.cells #[.int .i64 W, .slice A n c] 29)).alloc (.cells #[.int .u8 115, .int .u8 102, .int .u8 100] 5))) := belAlloc HB _
  have HA0 := boxAlloc HA (.cells #[.int .u8 115, .int .u8 102, .int .u8 100] 5)
  have HKC : Hid (∀ k, k < 3 → ((w.alloc (.cells #[.int .i64 W, .slice A n c] 29)).alloc (.cells #[.int .u8 115, .int .u8 102, .int .u8 100] 5)).cell? ⟨w.heap.size + 1, k, none⟩ = some (.int .u8 ((kb k).toNat : Int))) := fun k hk => by
    obtain rfl | rfl | rfl : k = 0 ∨ k = 1 ∨ k = 2 := by omega
    all_goals
      rw [show w.heap.size + 1 = (w.alloc (.cells #[.int .i64 W, .slice A n c] 29)).heap.size by simp]
      simp [kb]
  have hz2 : ((w.alloc (.cells #[.int .i64 W, .slice A n c] 29)).alloc (.cells #[.int .u8 115, .int .u8 102, .int .u8 100] 5)).heap.size = w.heap.size + 2 := by simp
  obtain ⟨w2, hw2⟩ : ∃ w2, w2 = (w.alloc (.cells #[.int .i64 W, .slice A n c] 29)).alloc (.cells #[.int .u8 115, .int .u8 102, .int .u8 100] 5) := ⟨_, rfl⟩
  rw [← hw2] at HQ0 HA0 HKC hz2 ⊢
  clear hw2 HA HB
  go_loopw [3, 11] (fun s i wr => ∃ (k m : Nat) (A1 : Option Addr) (c1 : Nat), k ≤ 3 ∧ i = .int .i64 (k : Int) ∧ s = .slice A1 m c1 ∧ OT wr w2.heap.size A1 m c1 (mvK zs n k) ∧ Below w2.heap.size w2 wr) (fun _ i _ => 3 - (intOf i).toNat)
  case atStart => exact ⟨0, 0, none, 0, by omega, rfl, rfl, OT.none_ _ _, Below.refl _ _⟩
  case round =>
    obtain ⟨k, m, A1, c1, hk, rfl, rfl, ho, hb⟩ := hrel
    obtain ⟨wo, hwo⟩ : ∃ wo, wo = wr := ⟨_, rfl⟩
    subst hwo
    have HA := boxStep HA0 hb
    have HBX := Lib.hid hb
    have HO := Lib.hid ho
    clear ho hb
    have a0 := HA.out.c0; have a1 := HA.out.c1; have az := HA.out.lt
    by_cases hlt : k < 3
    · have hk0 : wo.cell? ⟨w.heap.size + 1, k, none⟩ = some (.int .u8 ((kb k).toNat : Int)) := (HBX.out.cell (p := ⟨w.heap.size + 1, k, none⟩) (by show w.heap.size + 1 < _; omega)).trans (HKC.out k hlt)
      obtain ⟨b, hb⟩ : ∃ b, b = kb k := ⟨_, rfl⟩
      obtain ⟨x, hx⟩ : ∃ x : Int, x = ((kb k).toNat : Int) := ⟨_, rfl⟩
      have hx0 : 0 ≤ x ∧ x < 256 := by rw [hx]; have := (kb k).toNat_lt; omega
      rw [← hx] at hk0
      have HMK : Hid (∀ a : Nat, ∃ (V : Int) (m : Nat) (ys : List Int), ∀ (A : Option Addr) (w : World), RI w A n zs → Calls Tryd.prog 34 #[.agg #[.int .i64 W, .slice A n c], .int .u8 x, .int .i64 (a : Int)] w (FreshLB w V m ys (mvOk zs k a))) := fun a => by
        rw [hx]; exact HM.out k hlt a
      have HBK := Lib.hid hb
      have HCV : Hid (∀ (w' : World) (g : Nat), w'.cell? ⟨g, 0, none⟩ = some (.int .u8 x) → (convert 73 9 (.slice (some ⟨g, 0, none⟩) 1 1)).run Tryd.prog w' = .ok (.string ⟨#[b]⟩) w') := by
        intro w' g hc
        refine run_convert_bytes_back _ 73 9 5 ⟨g, 0, none⟩ 1 [b] Tryd.underlying73 Tryd.underlying5 Tryd.underlying9 (fun j hj => ?_)
        obtain rfl : j = 0 := by simpa using hj
        simp [Addr.add, hc, hx, hb]
      clear hb hx
      have HLT := Lib.hid hlt
      go_wp2
      rw [show decide ((k : Int) < 3) = true from decide_eq_true (by have := HLT.out; omega)]
      have hwz := HBX.out.size
      clear a0 a1 az hk0
      go_loopw [3, 18] (fun s i wq => ∃ (j m : Nat) (A1 : Option Addr) (c1 : Nat), j ≤ n ∧ i = .int .i64 (j : Int) ∧ s = .slice A1 m c1 ∧ OT wq w2.heap.size A1 m c1 (mvK zs n k ++ mvJ zs k j) ∧ Below w2.heap.size w2 wq) (fun _ i _ => n - (intOf i).toNat)
      case atStart => exact ⟨0, m, A1, c1, by omega, rfl, rfl, by rw [show mvJ zs k 0 = [] from rfl, List.append_nil]; exact HO.out, HBX.out⟩
      case round =>
        clear HO HA
        obtain ⟨j, m, A1, c1, hj, rfl, rfl, ho, hb⟩ := hrel
        have HO := Lib.hid ho
        have HQB := Lib.hid hb
        have HA := boxStep HA0 hb
        clear ho hb hlt
        have a0 := HA.out.c0; have a1 := HA.out.c1; have az := HA.out.lt
        have hml : m ≤ 1000 := by
          have h1 := HO.out.1
          rw [List.length_append] at h1
          have h2 := mvK_len zs n k
          have h3 := mvJ_len zs k j
          have h4 : n * k ≤ 60 * 3 := Nat.mul_le_mul hn hk
          omega
        by_cases hjn : j < n
        · obtain ⟨V, mm, ys, hmj⟩ := HMK.out j
          have HMJ := Lib.hid hmj
          obtain ⟨q, hqq⟩ : ∃ q, q = mvOk zs k j := ⟨_, rfl⟩
          rw [← hqq] at HMJ
          have HQQ := Lib.hid hqq
          clear hmj hqq
          go_wp2_with fail
          refine (HMJ.out A _ HA.out.ri).mono ?_
          rintro e w5 ⟨A5, c5, rfl, o5, hb⟩
          have HO6' := Lib.hid ((HO.out.below hb).alloc (.cells #[.int .i64 V, .slice A5 mm c5] 29))
          have HQB6' := Lib.hid ((HQB.out.trans (hb.mono HQB.out.size)).alloc (HQB.out.trans (hb.mono HQB.out.size)).size (.cells #[.int .i64 V, .slice A5 mm c5] 29))
          clear hb o5 a0 a1 az HO HQB HA
          cases q
          · go_wp2
            go_roundw
            case rel => exact ⟨j + 1, m, A1, c1, by omega, by go_num, rfl, by rw [mvJ_no HQQ.out.symm]; exact HO6'.out, HQB6'.out⟩
            case measure => simp [intOf]; omega
          · go_wp2_with fail
            obtain ⟨w6, hw6⟩ : ∃ w6, w6 = w5.alloc (.cells #[.int .i64 V, .slice A5 mm c5] 29) := ⟨_, rfl⟩
            have HO6 : Hid (OT w6 w2.heap.size A1 m c1 (mvK zs n k ++ mvJ zs k j)) := by rw [hw6]; exact HO6'
            have HQB6 : Hid (Below w2.heap.size w2 w6) := by rw [hw6]; exact HQB6'
            rw [← hw6]
            clear HO6' HQB6' hw6
            obtain ⟨u, hu⟩ : ∃ u, u = bs (numT (j : Int)) := ⟨_, rfl⟩
            have HU : Hid (∀ w, Calls Tryd.prog 33 #[.int .i64 (j : Int)] w (fun e w' => e = .returned (.string u) ∧ Below w.heap.size w w')) := fun w => by
              rw [hu]; exact l1Num_hund j w (by omega)
            have hz : 1 + u.size ≤ 9223372036854775807 := by rw [hu, bs_size]; have := numT_len2 (a := j) (by omega); omega
            have hz9 : ¬ 9223372036854775807 < 1 + u.size := by omega
            have HS : Hid ((.string ((⟨#[b]⟩ : ByteArray) ++ u) : Value) = str (b :: numT (j : Int))) := by
              show _ = _
              rw [hu]; exact congrArg Value.string (bs_append [b] _)
            have HS1 : Hid (∀ wi : World, RT (wi.alloc (.cells #[.string ((⟨#[b]⟩ : ByteArray) ++ u)] 9)) (some ⟨wi.heap.size, 0, none⟩) 1 [b :: numT (j : Int)]) := fun wi => by rw [HS.out]; exact RT.single wi _
            have HS2 : Hid (∀ (wi : World) (o : Obj), RT ((wi.alloc o).alloc (.cells #[.string ((⟨#[b]⟩ : ByteArray) ++ u)] 9)) (some ⟨wi.heap.size + 1, 0, none⟩) 1 [b :: numT (j : Int)]) := fun wi o => by
              have := HS1.out (wi.alloc o)
              rw [World.size_alloc] at this
              exact this
            clear hu
            have hcv := HCV.out
            go_region_law (first | (refine step_call1 _ rfl 33 (.tmp 33) 3 rfl (by rfl) _ rfl _ (HU.out _) ?_; rintro e w7 ⟨rfl, hb⟩; refine ⟨_, rfl, ?_⟩; (try (have c3 : w7.cell? ⟨w6.heap.size, 0, none⟩ = some (.int .u8 x) := (hb.cell (p := ⟨w6.heap.size, 0, none⟩) (by first | (simp; done) | fail)).trans (by first | (simp; done) | fail))); have b7 : Hid (Below w6.heap.size w6 w7) := (by first | exact Lib.hid hb | exact Lib.hid ((Below.refl w6.heap.size w6).drew.trans hb) | exact Lib.hid (((Below.refl w6.heap.size w6).alloc (Nat.le_refl _) _).trans (hb.mono (by first | omega | (simp; done) | (simp; omega)))) | exact Lib.hid (((Below.refl w6.heap.size w6).alloc (Nat.le_refl _) _).drew.trans (hb.mono (by first | omega | (simp; done) | (simp; omega)))) | exact Lib.hid (((Below.refl w6.heap.size w6).drew.alloc (Nat.le_refl _) _).trans (hb.mono (by first | omega | (simp; done) | (simp; omega))))); have HO7 := Lib.hid (HO6.out.below b7.out); have HQ7 := Lib.hid (HQB6.out.trans (b7.out.mono HQB6.out.size)); clear hb) | (refine step_append_texts _ rfl (.tmp 29) (.tmp 36) rfl w2.heap.size A1 m c1 _ (some ⟨w7.heap.size, 0, none⟩) 1 1 [b :: numT (j : Int)] rfl rfl (by with_reducible first | exact HO7.out.alloc _ | exact (HO7.out.alloc _).alloc _) (by with_reducible first | exact HS1.out _) (by omega) (by omega) (by have := HQ7.out.size; first | omega | (simp; done) | (simp; omega)) ?_; intro A3 c3 w8 ho3 hg3; have HO8 := Lib.hid ho3; have HG8 : Hid (Below w7.heap.size w7 w8 ∨ True) := Lib.hid (.inr trivial); have HQ8 : Hid (Below w2.heap.size w2 w8) := Lib.hid ((by first | exact (HQ7.out.alloc HQ7.out.size _) | exact ((HQ7.out.alloc HQ7.out.size _).alloc (by have := HQ7.out.size; first | omega | (simp; omega)) _) : Below w2.heap.size w2 _).trans (Below.of_grown hg3 (B := w2.heap.size) (fun x hx => (HO7.out.blk x hx).1) (by have := HQ7.out.size; first | omega | (simp; done) | (simp; omega)))); clear ho3 hg3) | (refine step_append_texts _ rfl (.tmp 29) (.tmp 36) rfl w2.heap.size A1 m c1 _ (some ⟨w7.heap.size + 1, 0, none⟩) 1 1 [b :: numT (j : Int)] rfl rfl (by with_reducible first | exact HO7.out.alloc _ | exact (HO7.out.alloc _).alloc _) (by with_reducible first | exact HS2.out _ _) (by omega) (by omega) (by have := HQ7.out.size; first | omega | (simp; done) | (simp; omega)) ?_; intro A3 c3 w8 ho3 hg3; have HO8 := Lib.hid ho3; have HG8 : Hid (Below w7.heap.size w7 w8 ∨ True) := Lib.hid (.inr trivial); have HQ8 : Hid (Below w2.heap.size w2 w8) := Lib.hid ((by first | exact (HQ7.out.alloc HQ7.out.size _) | exact ((HQ7.out.alloc HQ7.out.size _).alloc (by have := HQ7.out.size; first | omega | (simp; omega)) _) : Below w2.heap.size w2 _).trans (Below.of_grown hg3 (B := w2.heap.size) (fun x hx => (HO7.out.blk x hx).1) (by have := HQ7.out.size; first | omega | (simp; done) | (simp; omega)))); clear ho3 hg3))
            all_goals
              go_wp2
              go_roundw
              case rel => exact ⟨j + 1, m + 1, A3, c3, by omega, by go_num, rfl, by rw [mvJ_yes HQQ.out.symm, ← HBK.out, ← List.append_assoc]; exact HO8.out, HQ8.out⟩
              case measure => simp [intOf]; omega
        · obtain rfl : j = n := by omega
          have hlt := HLT.out
          go_wp2
          go_roundw
          case rel => exact ⟨k + 1, m, A1, c1, by omega, by go_num, rfl, HO.out, HQB.out⟩
          case measure => simp [intOf]; omega
    · obtain rfl : k = 3 := by omega
      have hm := HO.out.1
      subst hm
      go_wp2
      go_ret
      exact ⟨A1, c1, rfl, HO.out.mono (by omega), HQ0.out.trans (HBX.out.mono (by omega))⟩
end Go.Proofs.YtnogmbhcphglkaaDoor
