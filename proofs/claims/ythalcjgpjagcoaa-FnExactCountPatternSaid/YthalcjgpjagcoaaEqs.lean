/- Whether two lists are the same, as the model and the program ask it. -/
import Derived.Test.YthalcjgpjagcoaaMgD
import Derived.Test.YthalcjgpjagcoaaMgC
import Derived.Test.YthalcjgpjagcoaaSc1
import Derived.Deep.QuietTactic
import Derived.BigQuiet
namespace Go.Proofs.Ythalcjgpjagcoaa
open Go Go.RowKit

theorem lexl_diff : ∀ {k : Nat} {zs ys : List Int}, k < zs.length → k < ys.length → (∀ j, j < k → gi zs j = gi ys j) → gi zs k ≠ gi ys k → lexl zs ys = decide (gi zs k < gi ys k)
  | 0, x :: zs, y :: ys, _, _, _, hne => by
    have : x ≠ y := hne
    simp only [lexl]
    rw [if_neg this]; rfl
  | k + 1, x :: zs, y :: ys, h1, h2, he, hne => by
    have h0 : x = y := he 0 (by omega)
    simp only [lexl]
    rw [if_pos h0]
    exact lexl_diff (k := k) (by simpa using h1) (by simpa using h2) (fun j hj => he (j + 1) (by omega)) hne
  | _, [], _, h, _, _, _ => absurd h (by simp)
  | _, _ :: _, [], _, h, _, _ => absurd h (by simp)
theorem lexl_pre : ∀ {k : Nat} {zs ys : List Int}, k ≤ zs.length → k ≤ ys.length → (k = zs.length ∨ k = ys.length) → (∀ j, j < k → gi zs j = gi ys j) → lexl zs ys = decide (zs.length < ys.length)
  | 0, [], [], _, _, _, _ => rfl
  | 0, [], y :: ys, _, _, _, _ => rfl
  | 0, x :: zs, [], _, _, _, _ => rfl
  | 0, x :: zs, y :: ys, _, _, h, _ => by rcases h with h | h <;> simp at h
  | k + 1, x :: zs, y :: ys, h1, h2, h, he => by
    have h0 : x = y := he 0 (by omega)
    simp only [lexl]
    rw [if_pos h0, lexl_pre (k := k) (by simpa using h1) (by simpa using h2) (by simpa using h) (fun j hj => he (j + 1) (by omega))]
    simp
  | k + 1, [], _, h, _, _, _ => absurd h (by simp)
  | k + 1, _ :: _, [], _, h, _, _ => absurd h (by simp)
theorem same_lex (zs ys : List Int) : (!lexl zs ys && !lexl ys zs) = decide (zs = ys) := by
  by_cases h : zs = ys
  · subst h; rw [lexl_irrefl]; simp
  · rw [decide_eq_false h]
    cases h1 : lexl zs ys with
    | true => rfl
    | false =>
      cases h2 : lexl ys zs with
      | true => rfl
      | false => exact absurd (lexl_tri _ _ h1 h2) h
/-- a bool, and only draws -/
def QuietB (b : Bool) (w : World) (e : Ending) (w' : World) : Prop := e = .returned (.bool b) ∧ ∃ k, w' = w.drewN k

set_option maxRecDepth 100000 in
set_option maxHeartbeats 1000000 in
theorem lsLess_any (A : Option Addr) (n c : Nat) (zs : List Int) (B : Option Addr) (m d : Nat) (ys : List Int) (w : World) (h : RI w A n zs) (g : RI w B m ys) (hn : n ≤ 1000) (_hm : m ≤ 1000) :
    Calls Try.prog 67 #[.slice A n c, .slice B m d] w (QuietB (lexl zs ys) w) := by
  have hl := h.1
  have hl2 := g.1
  go_enter Try.func67, Try.ntmps67
  go_wp2
  go_loopw [5] (fun i wr => ∃ k q : Nat, wr = w.drewN q ∧ k ≤ n ∧ k ≤ m ∧ i = .int .i64 k ∧ (∀ j, j < k → gi zs j = gi ys j)) (fun i _ => n - (intOf i).toNat)
  case atStart => exact ⟨0, 0, rfl, Nat.zero_le _, Nat.zero_le _, rfl, fun j hj => absurd hj (by omega)⟩
  case round =>
    obtain ⟨k, q, rfl, hk1, hk2, rfl, hall⟩ := hrel
    have HALL := Lib.hid hall
    clear hall
    by_cases h1 : k < n
    · by_cases h2 : k < m
      · obtain ⟨b, off, rfl, hbw, hc⟩ := h.cell h1
        obtain ⟨b2, off2, rfl, hbw2, hc2⟩ := g.cell h2
        have hck := hc k h1
        have hck2 := hc2 k h2
        clear hc hc2 h g
        by_cases he : gi zs k = gi ys k
        · have HE := Lib.hid he
          have e0 : (gi zs k != gi ys k) = false := by rw [bne_eq_false_iff_eq]; exact he
          go_wp2
          go_quiet (fail)
          go_wp2
          go_roundw
          case rel =>
            refine ⟨k + 1, q + nq, by first | rfl | rw [World.drewN_drewN], by omega, by omega, by go_num, fun j hj => ?_⟩
            by_cases e : j = k
            · rw [e]; exact HE.out
            · exact HALL.out j (by omega)
          case measure => simp [intOf]; omega
        · have HE := Lib.hid he
          have e0 : (gi zs k != gi ys k) = true := by rw [bne_iff_ne]; exact he
          have HX := Lib.hid (lexl_diff (by omega) (by omega) HALL.out he)
          clear he
          go_wp2
          go_quiet (fail)
          go_wp2
          go_quiet (fail)
          go_wp2
          go_ret
          exact ⟨by rw [HX.out]; rfl, _, by first | rfl | (rw [World.drewN_drewN]; rfl) | rw [World.drewN_drewN, World.drewN_drewN]⟩
      · have HX := Lib.hid (lexl_pre (zs := zs) (ys := ys) (k := k) (by omega) (by omega) (.inr (by omega)) HALL.out)
        rw [hl, hl2] at HX
        clear h g
        go_wp2
        go_ret
        exact ⟨by rw [HX.out]; simp <;> omega, q, rfl⟩
    · have HX := Lib.hid (lexl_pre (zs := zs) (ys := ys) (k := k) (by omega) (by omega) (.inl (by omega)) HALL.out)
      rw [hl, hl2] at HX
      clear h g
      go_wp2
      go_ret
      exact ⟨by rw [HX.out]; simp, q, rfl⟩

set_option maxHeartbeats 400000 in
theorem lsSame_any (A : Option Addr) (n c : Nat) (zs : List Int) (B : Option Addr) (m d : Nat) (ys : List Int) (w : World) (h : RI w A n zs) (g : RI w B m ys) (hn : n ≤ 1000) (hm : m ≤ 1000) :
    Calls Try.prog 50 #[.slice A n c, .slice B m d] w (RetB (decide (zs = ys)) w) := by
  rw [← same_lex]
  have H1 : Hid (∀ w, RI w A n zs → RI w B m ys → Calls Try.prog 67 #[.slice A n c, .slice B m d] w (QuietB (lexl zs ys) w)) := fun w h g => lsLess_any A n c zs B m d ys w h g hn hm
  have H2 : Hid (∀ w, RI w A n zs → RI w B m ys → Calls Try.prog 67 #[.slice B m d, .slice A n c] w (QuietB (lexl ys zs) w)) := fun w h g => lsLess_any B m d ys A n c zs w g h hm hn
  obtain ⟨q1, hq1⟩ : ∃ q, q = lexl zs ys := ⟨_, rfl⟩
  obtain ⟨q2, hq2⟩ : ∃ q, q = lexl ys zs := ⟨_, rfl⟩
  rw [← hq1] at H1 ⊢
  rw [← hq2] at H2 ⊢
  clear hq1 hq2
  have HA := Lib.hid h
  have HG := Lib.hid g
  clear h g
  cases q1
  · cases q2
    all_goals
      go_enter Try.func50, Try.ntmps50
      go_wp2_with fail
      refine (H1.out _ HA.out HG.out).mono ?_
      rintro e w1 ⟨rfl, k1, rfl⟩
      go_wp2_with fail
      refine (H2.out _ (HA.out.drewN k1) (HG.out.drewN k1)).mono ?_
      rintro e w2 ⟨rfl, k2, rfl⟩
      go_wp2
      go_ret
      exact ⟨rfl, by repeat (first | exact Below.refl _ _ | refine below_drewN ?_ _)⟩
  · clear H2
    go_enter Try.func50, Try.ntmps50
    go_wp2_with fail
    refine (H1.out _ HA.out HG.out).mono ?_
    rintro e w1 ⟨rfl, k1, rfl⟩
    go_wp2
    go_ret
    exact ⟨rfl, by repeat (first | exact Below.refl _ _ | refine below_drewN ?_ _)⟩

set_option maxRecDepth 100000 in
set_option maxHeartbeats 400000 in
theorem equalI_any (A : Option Addr) (n c : Nat) (zs : List Int) (B : Option Addr) (m d : Nat) (ys : List Int) (w : World) (h : RI w A n zs) (g : RI w B m ys) (hn : n ≤ 1048576) (hm : m ≤ 1048576) :
    Calls Try.prog 51 #[.slice A n c, .slice B m d] w (RetB (decide (zs = ys)) w) := by
  show Calls _ _ _ w (RetB (eqB zs ys) w)
  by_cases hnm : n = m
  · subst hnm
    go_enter Try.func51, Try.ntmps51
    go_wp2
    go_loopw [5, 13] (fun _ i wr => ∃ k : Nat, k ≤ n ∧ i = .int .i64 k ∧ (∀ j, j < k → gi zs j = gi ys j) ∧ Below w.heap.size w wr) (fun _ i _ => n - (intOf i).toNat)
    case atStart => exact ⟨0, Nat.zero_le _, rfl, fun j hj => absurd hj (by omega), Below.refl _ _⟩
    case round =>
      obtain ⟨k, hk, rfl, hall, hb⟩ := hrel
      by_cases hlt : k < n
      · obtain ⟨b, off, rfl, hbw, hc⟩ := h.cell hlt
        obtain ⟨b2, off2, rfl, hbw2, hc2⟩ := g.cell hlt
        have hck : wr.cell? ⟨b, off + k, none⟩ = some (.int .i64 (gi zs k)) := (hb.cell (p := ⟨b, off + k, none⟩) hbw).trans (hc k hlt)
        have hck2 : wr.cell? ⟨b2, off2 + k, none⟩ = some (.int .i64 (gi ys k)) := (hb.cell (p := ⟨b2, off2 + k, none⟩) hbw2).trans (hc2 k hlt)
        have H2 := Lib.hid hb
        have H3 := Lib.hid hall
        clear hb hc hc2 hall
        by_cases he : gi zs k = gi ys k
        · have HE := Lib.hid he
          have e0 : (gi zs k != gi ys k) = false := by rw [bne_eq_false_iff_eq]; exact he
          go_wp2
          go_quiet (fail)
          go_wp2
          go_roundw
          case rel =>
            refine ⟨k + 1, by omega, by go_num, fun j hj => ?_, below_drewN H2.out _⟩
            by_cases e : j = k
            · rw [e, HE.out]
            · exact H3.out j (by omega)
          case measure => simp [intOf]; omega
        · have HE := Lib.hid he
          have e0 : (gi zs k != gi ys k) = true := by rw [bne_iff_ne]; exact he
          go_wp2
          go_quiet (fail)
          go_wp2
          go_ret
          exact ⟨ret_b (eqB_at HE.out).symm, below_drewN H2.out _⟩
      · obtain rfl : k = n := by omega
        go_wp2
        go_ret
        exact ⟨ret_b (eqB_true (h.1.trans g.1.symm) (by rw [h.1]; exact hall)).symm, hb⟩
  · have hne : ((n : Int) != (m : Int)) = true := by rw [bne_iff_ne]; omega
    go_enter Try.func51, Try.ntmps51
    go_wp2
    go_ret
    exact ⟨ret_b (eqB_len (by rw [h.1, g.1]; exact hnm)).symm, Below.refl _ _⟩
end Go.Proofs.Ythalcjgpjagcoaa
