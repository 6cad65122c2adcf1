/- The texts of moves: mathematics, and the model's text of a number of two digits. -/
import Derived.Test.YtnogmbhcphglkaaDoorTx1
import Derived.Test.YtnogmbhcphglkaaDoorMv4
import Derived.Deep.RegionHeld3
import Derived.Deep.Cut
namespace Go.Proofs.YtnogmbhcphglkaaDoor
open Go Go.RowKit

theorem numT_two {n : Nat} (h : 10 ≤ n) (h2 : n < 100) : numT (n : Int) = [UInt8.ofNat (48 + n / 10), UInt8.ofNat (48 + n % 10)] := by
  have h1 : n / 10 < 10 := by omega
  have e1 := numT_small h1
  unfold numT at e1 ⊢
  rw [Int.toNat_natCast] at e1 ⊢
  rw [Lib.decDigits, dif_neg (by omega), e1]
  rfl
/-- which number a text tells, below a hundred -/
def prs (ds : List UInt8) : Option Nat := (List.range 100).find? fun a => decide (numT (a : Int) = ds)
theorem prs_some {ds : List UInt8} {a : Nat} (h : prs ds = some a) : a < 100 ∧ numT (a : Int) = ds := by
  unfold prs at h
  have h1 := List.find?_some h
  have h2 := List.mem_of_find?_eq_some h
  exact ⟨List.mem_range.1 h2, of_decide_eq_true h1⟩
theorem ofNat_inj {a b : Nat} (ha : a < 256) (hb : b < 256) (h : UInt8.ofNat a = UInt8.ofNat b) : a = b := by
  have := congrArg UInt8.toNat h
  simpa [Nat.mod_eq_of_lt ha, Nat.mod_eq_of_lt hb] using this
theorem numT_inj {a b : Nat} (ha : a < 100) (hb : b < 100) (h : numT (a : Int) = numT (b : Int)) : a = b := by
  by_cases h1 : a < 10
  · by_cases h2 : b < 10
    · rw [numT_small h1, numT_small h2] at h
      injection h with h _
      have := ofNat_inj (by omega) (by omega) h
      omega
    · rw [numT_small h1, numT_two (by omega) hb] at h
      injection h with _ h
      cases h
  · by_cases h2 : b < 10
    · rw [numT_two (by omega) ha, numT_small h2] at h
      injection h with _ h
      cases h
    · rw [numT_two (by omega) ha, numT_two (by omega) hb] at h
      injection h with e1 h
      injection h with e2 _
      have := ofNat_inj (by omega) (by omega) e1
      have := ofNat_inj (by omega) (by omega) e2
      omega
theorem prs_numT {a : Nat} (h : a < 100) : prs (numT (a : Int)) = some a := by
  cases hq : prs (numT (a : Int)) with
  | none =>
    unfold prs at hq
    have := List.find?_eq_none.1 hq a (List.mem_range.2 h)
    simp at this
  | some b =>
    obtain ⟨hb, e⟩ := prs_some hq
    rw [numT_inj hb h e]
theorem prs_none {ds : List UInt8} (h : ∀ a : Nat, a < 100 → numT (a : Int) ≠ ds) : prs ds = none := by
  cases hq : prs ds with
  | none => rfl
  | some b => obtain ⟨hb, e⟩ := prs_some hq; exact absurd e (h b hb)
/-- what a move of a kind makes of a list -/
def mvO (zs : List Int) (k : UInt8) (a : Nat) : Option (List Int) :=
  if k = 115 then (if sldOk zs a = true then some (sldL zs a) else none)
  else if k = 102 then (if flpOk zs a = true then some (flpL zs a) else none)
  else if k = 100 then (if drpOk zs a = true then some (drpL zs a) else none)
  else none
theorem mvO_far {zs : List Int} {k : UInt8} {a : Nat} (h : zs.length ≤ a) : mvO zs k a = none := by
  unfold mvO
  rw [sldOk_no1 (zs := zs) (a := (a : Int)) (by omega), flpOk_no1 (zs := zs) (a := (a : Int)) (by omega), drpOk_no1 (zs := zs) (a := (a : Int)) (by omega)]
  simp
theorem mvO_other {zs : List Int} {k : UInt8} {a : Nat} (h1 : k ≠ 115) (h2 : k ≠ 102) (h3 : k ≠ 100) : mvO zs k a = none := by
  unfold mvO; rw [if_neg h1, if_neg h2, if_neg h3]
/-- what a text makes of a list -/
def txO (zs : List Int) : List UInt8 → Option (List Int)
  | [] => none
  | k :: ds => (prs ds).bind (mvO zs k)
def mmB (W : Int) (zs : List Int) (l : List UInt8) : Bool := lad W zs && (txO zs l).isSome
def mmL (W : Int) (zs : List Int) (l : List UInt8) : List Int := if lad W zs = true then (txO zs l).getD [] else []
theorem txO_at {zs : List Int} {k : UInt8} {a : Nat} (h : a < 100) : txO zs (k :: numT (a : Int)) = mvO zs k a := by
  show (prs (numT (a : Int))).bind _ = _
  rw [prs_numT h]; rfl
theorem txO_no {zs : List Int} {l : List UInt8} (h : ∀ (k : UInt8) (a : Nat), a < zs.length → a < 100 → (k = 115 ∨ k = 102 ∨ k = 100) → l ≠ k :: numT (a : Int)) : txO zs l = none := by
  cases l with
  | nil => rfl
  | cons k ds =>
    show (prs ds).bind _ = none
    cases hq : prs ds with
    | none => rfl
    | some a =>
      obtain ⟨ha, e⟩ := prs_some hq
      show mvO zs k a = none
      by_cases hl : a < zs.length
      · by_cases h1 : k = 115
        · exact absurd (by rw [e]) (h k a hl ha (.inl h1))
        · by_cases h2 : k = 102
          · exact absurd (by rw [e]) (h k a hl ha (.inr (.inl h2)))
          · by_cases h3 : k = 100
            · exact absurd (by rw [e]) (h k a hl ha (.inr (.inr h3)))
            · exact mvO_other h1 h2 h3
      · exact mvO_far (by omega)

set_option maxRecDepth 100000 in
set_option maxHeartbeats 300000 in
theorem l1Num_two (n : Nat) (w : World) (h0 : 10 ≤ n) (h : n < 100) : Calls Tryd.prog 33 #[.int .i64 (n : Int)] w (RetS (numT n) w) := by
  have hn := numT_two h0 h
  obtain ⟨u, hu⟩ : ∃ u, u = bs (numT ((n / 10 : Nat) : Int)) := ⟨_, rfl⟩
  obtain ⟨d, hd⟩ : ∃ d : UInt8, d = UInt8.ofNat (48 + n % 10) := ⟨_, rfl⟩
  have HU : Hid (∀ w, Calls Tryd.prog 33 #[.int .i64 ((n : Int) / 10)] w (fun e w' => e = .returned (.string u) ∧ Below w.heap.size w w')) := fun w => by
    have e : ((n : Int) / 10) = ((n / 10 : Nat) : Int) := by omega
    rw [e, hu]
    exact l1Num_any (n / 10) w (by omega)
  have HN : Hid (u ++ ⟨#[d]⟩ = bs (numT (n : Int))) := by
    show _ = _
    rw [hn, hu, numT_small (by omega), hd]
    rfl
  have h1 : ¬ (n : Int) < 10 := by omega
  have h2 : (10 : Int) ≤ (n : Int) := by omega
  have hq : Int.tdiv (n : Int) 10 = (n : Int) / 10 := Int.tdiv_eq_ediv_of_nonneg (by omega)
  have hr : Int.tmod (n : Int) 10 = (n : Int) % 10 := Int.tmod_eq_emod_of_nonneg (by omega)
  obtain ⟨x, hx⟩ : ∃ x : Int, x = (n : Int) % 10 := ⟨_, rfl⟩
  obtain ⟨y, hy⟩ : ∃ y : Int, y = (n : Int) / 10 := ⟨_, rfl⟩
  rw [← hx] at hr
  rw [← hy] at hq HU
  have x0 : 0 ≤ x := by omega
  have x1 : x < 10 := by omega
  have s0 : IntKind.i64.wrap y = y := IntWalk.i64_in _ (by omega)
  have s3 : IntKind.i64.wrap x = x := IntWalk.i64_in _ (by omega)
  have s1 : IntKind.i64.wrap (48 + x) = 48 + x := IntWalk.i64_in _ (by omega)
  have s2 : IntKind.u8.wrap (48 + x) = 48 + x := by
    show (48 + x) % 256 = _
    omega
  have HCV : Hid (∀ (w' : World) (g : Nat), w'.cell? ⟨g, 0, none⟩ = some (.int .u8 (48 + x)) → (convert 73 9 (.slice (some ⟨g, 0, none⟩) 1 1)).run Tryd.prog w' = .ok (.string ⟨#[d]⟩) w') := by
    intro w' g hc
    refine run_convert_bytes_back _ 73 9 5 ⟨g, 0, none⟩ 1 [d] Tryd.underlying73 Tryd.underlying5 Tryd.underlying9 (fun j hj => ?_)
    obtain rfl : j = 0 := by simpa using hj
    have e : (48 + n % 10) % 256 = 48 + n % 10 := by omega
    have e2 : (48 + x) = ((48 + n % 10 : Nat) : Int) := by omega
    simp [Addr.add, hd, e, hc, e2]
  have hz : u.size + 1 ≤ 9223372036854775807 := by rw [hu, bs_size, numT_len (by omega)]; omega
  clear hx hy
  clear hu hd hn
  have hcv := HCV.out
  go_enter Tryd.func33, Tryd.ntmps33
  go_upto_region 3 with fail
  go_region_with ((go_at_call 33; refine (HU.out _).mono ?_; rintro e w3 ⟨rfl, hb⟩; (try (have c3 : w3.cell? ⟨w.heap.size, 0, none⟩ = some (.int .u8 (48 + x)) := (hb.cell (p := ⟨w.heap.size, 0, none⟩) (by first | (simp; done) | fail)).trans (by first | (simp; done) | fail))); have HB3 := Lib.hid hb; clear hb))
  all_goals (go_wp2_with fail)
  all_goals
    go_ret
    refine ⟨by rw [HN.out]; rfl, ?_⟩
    first
      | exact (Below.refl w.heap.size w).drew.trans (HB3.out.alloc HB3.out.size _)
      | exact (((Below.refl w.heap.size w).alloc (Nat.le_refl _) _).drew.trans (HB3.out.mono (by first | omega | (simp; done) | (simp; omega))))
      | exact (((Below.refl w.heap.size w).drew.alloc (Nat.le_refl _) _).trans (HB3.out.mono (by first | omega | (simp; done) | (simp; omega))))
end Go.Proofs.YtnogmbhcphglkaaDoor
