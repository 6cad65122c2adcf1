/- The model's taking game: what it holds, and its first state. -/
import Derived.Test.YtiapbmgpjloafaaGt0
import Derived.Test.YtiapbmgpjloafaaGm7
import Derived.Test.YtiapbmgpjloafaaStP
import Derived.Deep.Cut
import Derived.Deep.CutRange
namespace Go.Proofs.Ytiapbmgpjloafaa
open Go Go.RowKit

theorem infoBoolG : (Try.prog.info? 4).map (fun i => (i.zero, i.size, i.bytes)) = some (some (.bool false), 1, 1) := by kernel_rfl

/-- block g holds the model's game: the ladder, and the rows hb and lb -/
structure TK (w : World) (g hb lb P : Nat) (W : Int) (A : Option Addr) (n c : Nat) : Prop where
  c0 : w.cell? ⟨g, 0, none⟩ = some (.int .i64 W)
  c1 : w.cell? ⟨g, 1, none⟩ = some (.slice A n c)
  c2 : w.cell? ⟨g, 2, none⟩ = some (.slice (some ⟨hb, 0, none⟩) P P)
  c3 : w.cell? ⟨g, 3, none⟩ = some (.slice (some ⟨lb, 0, none⟩) P P)
  lt : g < w.heap.size
/-- which sets leave everybody at home, of those below S -/
def hF (zs : List Int) (N S a : Nat) : Bool := decide (a < S) && homeQ zs N a
/-- what their outlooks are -/
def lF (zs : List Int) (N S a : Nat) : Int := if a < S then scO (ovS zs N a) else 0
section
variable {w wi wj : World} {g hb lb P : Nat} {W : Int} {A : Option Addr} {n c : Nat}
theorem tkStep (h : Hid (TK wi g hb lb P W A n c)) (hb' : Below wi.heap.size wi wj) : Hid (TK wj g hb lb P W A n c) :=
  ⟨(hb'.cell (p := ⟨g, 0, none⟩) h.out.lt).trans h.out.c0, (hb'.cell (p := ⟨g, 1, none⟩) h.out.lt).trans h.out.c1, (hb'.cell (p := ⟨g, 2, none⟩) h.out.lt).trans h.out.c2, (hb'.cell (p := ⟨g, 3, none⟩) h.out.lt).trans h.out.c3, Nat.lt_of_lt_of_le h.out.lt hb'.size⟩
theorem tkDrew (h : Hid (TK wi g hb lb P W A n c)) : Hid (TK wi.drew g hb lb P W A n c) := ⟨h.out.c0, h.out.c1, h.out.c2, h.out.c3, h.out.lt⟩
theorem tkSet (h : Hid (TK wi g hb lb P W A n c)) {p : Addr} (hp : p.block ≠ g) (u : Value) : Hid (TK (wi.setCell p u) g hb lb P W A n c) := by
  have e : ∀ k, (wi.setCell p u).cell? ⟨g, k, none⟩ = wi.cell? ⟨g, k, none⟩ := fun k => World.cell?_setCell_other _ _ _ _ (fun e => hp (by rw [e]))
  exact ⟨(e 0).trans h.out.c0, (e 1).trans h.out.c1, (e 2).trans h.out.c2, (e 3).trans h.out.c3, by simpa [World.setCell] using h.out.lt⟩
theorem boxSetG {b : Nat} {zs : List Int} (h : Hid (Box wi b W A n c zs)) {p : Addr} (hp : p.block ≠ b) (u : Value) (hr : RI (wi.setCell p u) A n zs) : Hid (Box (wi.setCell p u) b W A n c zs) := by
  have e : ∀ k, (wi.setCell p u).cell? ⟨b, k, none⟩ = wi.cell? ⟨b, k, none⟩ := fun k => World.cell?_setCell_other _ _ _ _ (fun e => hp (by rw [e]))
  exact ⟨(e 0).trans h.out.c0, (e 1).trans h.out.c1, hr, by simpa [World.setCell] using h.out.lt⟩
end
theorem lF_at {zs : List Int} {N S a : Nat} (h : a < S) : lF zs N S a = scO (ovS zs N a) := by unfold lF; rw [if_pos h]
theorem hF_at {zs : List Int} {N S a : Nat} (h : a < S) : hF zs N S a = homeQ zs N a := by unfold hF; rw [decide_eq_true h]; rfl
theorem hF_not {zs : List Int} {N S a : Nat} (h : ¬ a < S) : hF zs N S a = false := by unfold hF; rw [decide_eq_false h]; rfl
theorem shr0_yes {S k : Nat} (h : S.testBit k = true) : (((S : Int) / 2 ^ k).tmod 2 == 0) = false := by rw [shr_bit, bit_yes h]; rfl
theorem shr0_no {S k : Nat} (h : S.testBit k = false) : (((S : Int) / 2 ^ k).tmod 2 == 0) = true := by rw [shr_bit, bit_no h]; rfl

theorem rowG1 (w : World) (x : Value) (P : Nat) (t : TypeId) (o0 o2 o3 : Obj) : ((((w.alloc o0).alloc (.cells (madeCells #[x] P) t)).alloc o2).alloc o3).drew.rowIs (w.heap.size + 1) t P (fun _ => x) := by
  have h := World.rowIs_made (w.alloc o0) x P t
  rw [World.size_alloc] at h
  exact ((h.alloc o2).alloc o3).drew
theorem rowG2 (w : World) (x : Value) (P : Nat) (t : TypeId) (o0 o1 o3 : Obj) : ((((w.alloc o0).alloc o1).alloc (.cells (madeCells #[x] P) t)).alloc o3).drew.rowIs (w.heap.size + 1 + 1) t P (fun _ => x) := by
  have h := World.rowIs_made ((w.alloc o0).alloc o1) x P t
  rw [World.size_alloc, World.size_alloc] at h
  exact (h.alloc o3).drew
theorem setOtherG {w : World} {a p : Addr} {u v : Value} (h : w.cell? a = some v) (hp : p.block ≠ a.block) : (w.setCell p u).cell? a = some v := (World.cell?_setCell_other _ _ _ _ (fun e => hp (by rw [e]))).trans h
theorem tkNew (w : World) (o0 o1 o2 : Obj) (hb lb P : Nat) (W : Int) (A : Option Addr) (n c : Nat) (t : TypeId) :
    TK ((((w.alloc o0).alloc o1).alloc o2).alloc (.cells #[.int .i64 W, .slice A n c, .slice (some ⟨hb, 0, none⟩) P P, .slice (some ⟨lb, 0, none⟩) P P] t)).drew (w.heap.size + 1 + 1 + 1) hb lb P W A n c := by
  obtain ⟨x, hx⟩ : ∃ x, x = ((w.alloc o0).alloc o1).alloc o2 := ⟨_, rfl⟩
  have hs : w.heap.size + 1 + 1 + 1 = x.heap.size := by rw [hx]; simp
  rw [hs, ← hx]
  have h : TK (x.alloc (.cells #[.int .i64 W, .slice A n c, .slice (some ⟨hb, 0, none⟩) P P, .slice (some ⟨lb, 0, none⟩) P P] t)) x.heap.size hb lb P W A n c := ⟨by simp, by simp, by simp, by simp, by simp⟩
  exact ⟨h.c0, h.c1, h.c2, h.c3, h.lt⟩
theorem bK_set {f : Nat → OutP} {S k : Nat} (h : S.testBit k = true) : bK f S (k + 1) = if betB (f k) (bK f S k) = true then f k else bK f S k := by simp only [bK]; rw [if_pos h]
theorem bK_clear {f : Nat → OutP} {S k : Nat} (h : S.testBit k = false) : bK f S (k + 1) = bK f S k := by simp only [bK]; rw [if_neg (by rw [h]; decide)]
def GaPost (W : Int) (A : Option Addr) (n c : Nat) (zs : List Int) (N : Nat) (w : World) (e : Ending) (w' : World) : Prop :=
  ∃ g hb lb, e = .returned (.pointer (some ⟨g, 0, none⟩)) ∧ TK w' g hb lb (2 ^ n) W A n c ∧ w'.rowIs hb 4 (2 ^ n) (fun a => .bool (homeQ zs N a)) ∧ w'.rowIs lb 3 (2 ^ n) (fun a => .int .i64 (scO (ovS zs N a))) ∧ Below w.heap.size w w'

set_option maxRecDepth 100000 in
set_option maxHeartbeats 8000000 in
theorem gaNew_any (N : Nat) (A : Option Addr) (n c : Nat) (zs : List Int) (w : World) (h : RI w A n zs) (hn : n ≤ 12) (hl : lad (N : Int) zs = true) :
    Calls Try.prog 33 #[.agg #[.int .i64 (N : Int), .slice A n c]] w (GaPost (N : Int) A n c zs N w) := by
  have hz := h.1
  have hp1 := Nat.two_pow_pos n
  have hp2 := pow12 hn
  unfold GaPost
  obtain ⟨P, hP⟩ : ∃ P, P = 2 ^ n := ⟨_, rfl⟩
  have hpw := pow_wrap hn hP
  rw [← hP] at hp1 hp2 ⊢
  have HPn := Lib.hid hP
  have hmkB := run_make_row' (P := Try.prog) 47 4 (.bool false) 1 Try.underlying47 infoBoolG rfl .i64 .i64 P (by omega) (by omega)
  have hmkI := run_make_row' (P := Try.prog) 22 3 (.int .i64 0) 8 Try.underlying22 infoInt rfl .i64 .i64 P (by omega) (by omega)
  have HLL := Lib.hid (fun S => show (leftL zs S).length ≤ 12 from Nat.le_trans (leftK_len zs S zs.length) (by omega))
  have HHM := Lib.hid (fun S w2 A2 c2 (r : RI w2 A2 (leftL zs S).length (leftL zs S)) => gaHome_any N A2 _ c2 _ w2 r (by have := HLL.out S; omega) (leftL_lad hl S))
  have HLf := Lib.hid (fun S (hS : S < 4096) w2 (r : RI w2 A n zs) => gaLeft_any (N : Int) A n c zs S w2 r (by omega) hS)
  have HH := Lib.hid (fun w2 (r : Below w.heap.size w w2) => h.below r (Nat.le_refl _))
  have HA := boxNew (W := (N : Int)) (c := c) 28 h
  have HB := belAlloc (belRefl (w := w)) (.cells #[.int .i64 (N : Int), .slice A n c] 28)
  have HZ := Lib.hid hz
  clear h hl hP hz
  go_enter Try.func33, Try.ntmps33
  have a0 := HA.out.c0; have a1 := HA.out.c1; have az := HA.out.lt
  go_upto_region 2 with fail
  rw [hpw]
  go_cut [4] from 14 (fun s4 wx => ∃ g hb lb : Nat, s4 = .pointer (some ⟨g, 0, none⟩) ∧ TK wx g hb lb P (N : Int) A n c ∧ wx.rowIs hb 4 P (fun _ => .bool false) ∧ wx.rowIs lb 3 P (fun _ => .int .i64 0) ∧ Box wx w.heap.size (N : Int) A n c zs ∧ Below w.heap.size w wx ∧ hb ≠ lb ∧ g ≠ hb ∧ g ≠ lb ∧ w.heap.size < g ∧ w.heap.size < hb ∧ w.heap.size < lb)
  case first =>
    go_region
    all_goals
      go_wp2
      go_meet
      case rel =>
        first
          | exact ⟨w.heap.size + 1 + 1 + 1, w.heap.size + 1, w.heap.size + 1 + 1, rfl, tkNew _ _ _ _ _ _ _ _ _ _ _ _, rowG1 _ _ _ _ _ _ _, rowG2 _ _ _ _ _ _ _, (boxDrew (boxAlloc (boxAlloc (boxAlloc HA _) _) _)).out, (by repeat (first | exact Below.refl _ _ | exact HB.out | refine Below.setCell ?_ (by simp <;> omega) _ | refine Below.alloc ?_ (by simp <;> omega) _ | refine below_drewN ?_ _)), by omega, by omega, by omega, by omega, by omega, by omega⟩
          | exact ⟨w.heap.size + 1 + 1 + 1, w.heap.size + 1 + 1, w.heap.size + 1, rfl, tkNew _ _ _ _ _ _ _ _ _ _ _ _, rowG2 _ _ _ _ _ _ _, rowG1 _ _ _ _ _ _ _, (boxDrew (boxAlloc (boxAlloc (boxAlloc HA _) _) _)).out, (by repeat (first | exact Below.refl _ _ | exact HB.out | refine Below.setCell ?_ (by simp <;> omega) _ | refine Below.alloc ?_ (by simp <;> omega) _ | refine below_drewN ?_ _)), by omega, by omega, by omega, by omega, by omega, by omega⟩
  case rest =>
    obtain ⟨g, hb, lb, rfl, hTK, hRH, hRL, hBX, hBel, n1, n2, n3, n4, n5, n6⟩ := hcut
    have HT := Lib.hid hTK; have HRH := Lib.hid hRH; have HRL := Lib.hid hRL; have HBX := Lib.hid hBX; have HBl := Lib.hid hBel
    clear hTK hRH hRL hBX hBel hmkB hmkI a0 a1 az hpw
    go_wp2
    go_loopw [5] (fun i wr => ∃ S : Nat, S ≤ P ∧ i = .int .i64 (S : Int) ∧ TK wr g hb lb P (N : Int) A n c ∧ wr.rowIs hb 4 P (fun a => .bool (hF zs N S a)) ∧ wr.rowIs lb 3 P (fun a => .int .i64 (lF zs N S a)) ∧ Box wr w.heap.size (N : Int) A n c zs ∧ Below w.heap.size w wr) (fun i _ => P - (intOf i).toNat)
    case atStart => exact ⟨0, Nat.zero_le _, rfl, HT.out, HRH.out.congr (fun a _ => by simp [hF]), HRL.out.congr (fun a _ => by simp [lF]), HBX.out, HBl.out⟩
    case round =>
      obtain ⟨S, hS, rfl, hTK, hRH, hRL, hBX, hBel⟩ := hrel
      have HTr := Lib.hid hTK; have HRHr := Lib.hid hRH; have HRLr := Lib.hid hRL; have HBXr := Lib.hid hBX; have HBlr := Lib.hid hBel
      have g0 := hTK.c0; have g1 := hTK.c1; have g2 := hTK.c2; have g3 := hTK.c3; have gz := hTK.lt
      have b0 := hBX.c0; have b1 := hBX.c1; have bz := hBX.lt
      by_cases hlt : S < P
      · clear hTK hRH hRL hBX hBel
        obtain ⟨q, hq⟩ : ∃ q, q = homeQ zs N S := ⟨_, rfl⟩
        have HQ := Lib.hid hq
        have HM2 := Lib.hid (fun w2 A2 c2 (r : RI w2 A2 (leftL zs S).length (leftL zs S)) => HHM.out S w2 A2 c2 r)
        rw [show homeB (leftL zs S) N = homeQ zs N S from rfl, ← hq] at HM2
        have HLf2 := Lib.hid (fun w2 r => HLf.out S (by omega) w2 r)
        have hSP : (S : Int) < (P : Int) := by omega
        clear hq
        go_upto_region 6 with fail
        go_cut [5] from 21 to 137 (fun s5 wx => s5 = .int .i64 (S : Int) ∧ TK wx g hb lb P (N : Int) A n c ∧ wx.rowIs hb 4 P (fun a => .bool (hF zs N (S + 1) a)) ∧ wx.rowIs lb 3 P (fun a => .int .i64 (lF zs N S a)) ∧ Box wx w.heap.size (N : Int) A n c zs ∧ Below w.heap.size w wx)
        case first =>
          have TD := tkDrew HTr; have XD := boxDrew HBXr; have BD := belDrew HBlr
          have RHD : Hid (wr.drew.rowIs hb 4 P (fun a => .bool (hF zs N S a))) := Lib.hid HRHr.out.drew
          have RLD : Hid (wr.drew.rowIs lb 3 P (fun a => .int .i64 (lF zs N S a))) := Lib.hid HRLr.out.drew
          go_region_held3 (fun w' => w'.cell? ⟨w.heap.size, 0, none⟩ = some (.int .i64 (N : Int)) ∧ w'.cell? ⟨w.heap.size, 1, none⟩ = some (.slice A n c) ∧ w'.cell? ⟨g, 2, none⟩ = some (.slice (some ⟨hb, 0, none⟩) P P))
            (first | exact ⟨HBXr.out.c0, HBXr.out.c1, HTr.out.c2⟩ | exact ⟨A2.out.c0, A2.out.c1, T2.out.c2⟩ | exact ⟨A3.out.c0, A3.out.c1, T3.out.c2⟩ | exact ⟨setOtherG A3.out.c0 (by simp; omega), setOtherG A3.out.c1 (by simp; omega), setOtherG T3.out.c2 (by simp; omega)⟩)
            (first
              | (go_at_call 53; refine (HLf2.out _ XD.out.ri).mono ?_; rintro e w2 ⟨F2, d2, rfl, o2, hb2⟩; have A2 := boxStep XD hb2; have T2 := tkStep TD hb2; have B2 := belStep BD hb2; have RH2 := rowStep RHD hb2; have RL2 := rowStep RLD hb2; have O2 := Lib.hid o2; clear hb2 o2)
              | (go_at_call 52; refine (HM2.out _ _ _ O2.out.ri).mono ?_; rintro e w3 ⟨rfl, hb2⟩; have A3 := boxStep A2 hb2; have T3 := tkStep T2 hb2; have B3 := belStep B2 hb2; have RH3 := rowStep RH2 hb2; have RL3 := rowStep RL2 hb2; have hd3 := RH3.out.cell hlt; have hf3 := RH3.out.frozen S; clear hb2))
          go_wp2
          go_meet
          case rel =>
            have hbl := B3.out.setCell (p := ⟨hb, S, none⟩) (by simp; omega) (.bool q)
            refine ⟨rfl, (tkSet T3 (by simp; omega) _).out, (RH3.out.set S _).congr (fun a _ => ?_), RL3.out.setOther (by simp; omega) _, (boxSetG A3 (by simp; omega) _ (HH.out _ hbl)).out, hbl⟩
            by_cases e : a = S
            · subst e
              rw [if_pos rfl, hF_at (Nat.lt_succ_self _), HQ.out]
            · rw [if_neg e]
              by_cases e2 : a < S
              · rw [hF_at e2, hF_at (by omega)]
              · rw [hF_not e2, hF_not (by omega)]
        case rest =>
          obtain ⟨rfl, hTK, hRH, hRL, hBX, hBel⟩ := hcut
          have HTr := Lib.hid hTK; have HRHr := Lib.hid hRH; have HRLr := Lib.hid hRL; have HBXr := Lib.hid hBX; have HBlr := Lib.hid hBel
          clear g0 g1 g2 g3 gz b0 b1 bz
          have g0 := hTK.c0; have g1 := hTK.c1; have g2 := hTK.c2; have g3 := hTK.c3; have gz := hTK.lt
          have b0 := hBX.c0; have b1 := hBX.c1; have bz := hBX.lt
          have hh := hRH.cell hlt
          rw [hF_at (Nat.lt_succ_self _), ← HQ.out] at hh
          clear hTK hRH hRL hBX hBel
          cases q
          · have HBK := Lib.hid (ovS_bK (zs := zs) (N := N) HQ.out.symm)
            rw [HZ.out] at HBK
            obtain ⟨f, hf⟩ : ∃ f : Nat → OutP, f = fun i => behP (ovS zs N (nxT S i)) := ⟨_, rfl⟩
            have HF : Hid (∀ i, f i = behP (ovS zs N (nxT S i))) := Lib.hid (fun i => by rw [hf])
            rw [← hf] at HBK
            clear hf
            go_wp2
            go_loopw [6, 7, 48] (fun s6 s7 i wr => ∃ (k : Nat) (win lose : Int), k ≤ n ∧ i = .int .i64 (k : Int) ∧ s6 = .int .i64 win ∧ s7 = .int .i64 lose ∧ WL (bK f S k) win lose ∧ wr = wc) (fun _ _ i _ => n - (intOf i).toNat)
            case atStart => exact ⟨0, 0, 0, Nat.zero_le _, rfl, rfl, rfl, WL.start, rfl⟩
            case round =>
              obtain ⟨k, win, lose, hk, rfl, rfl, rfl, hWL, rfl⟩ := hrel
              have HWL := Lib.hid hWL
              have hwr1 := hWL.2.2.1
              have hwr2 := hWL.2.2.2.1
              clear hWL
              by_cases hkn : k < n
              · rcases hbit : S.testBit k with _ | _
                · have hs := shr0_no hbit
                  have HBc := Lib.hid (bK_clear (f := f) hbit)
                  clear hbit
                  go_wp2
                  go_roundw
                  case rel => exact ⟨k + 1, win, lose, by omega, by go_num, rfl, rfl, by rw [HBc.out]; exact HWL.out, by first | rfl | trivial⟩
                  case measure => simp [intOf]; omega
                · have hs := shr0_yes hbit
                  have HBs := Lib.hid (bK_set (f := f) hbit)
                  have hlt2 := nxT_lt hbit
                  obtain ⟨Pk, hPk⟩ : ∃ Pk, Pk = 2 ^ k := ⟨_, rfl⟩
                  have hpwk := pow_wrap (show k ≤ 12 by omega) hPk
                  have hab := andNot_bit (S := S) (i := k) (by omega) (by omega) hbit
                  have hfk := HF.out k
                  have hna : nxT S k = S - Pk := by unfold nxT; rw [hPk]
                  rw [← hPk] at hab
                  obtain ⟨a, ha⟩ : ∃ a, a = nxT S k := ⟨_, rfl⟩
                  rw [← hna, ← ha] at hab
                  rw [← ha] at hfk hlt2
                  have haP : a < P := by omega
                  have hha := HRHr.out.cell haP
                  have hla := HRLr.out.cell haP
                  rw [hF_at (by omega)] at hha
                  rw [lF_at hlt2] at hla
                  have hai : (a : Int) < (P : Int) := by omega
                  have ha0 : (0 : Int) ≤ (a : Int) := by omega
                  clear hbit hna ha hPk
                  rcases hqa : homeQ zs N a with _ | _
                  · rw [hqa] at hha
                    have hpos := ovS_pos (zs := zs) (N := N) hqa
                    have hle := ovS_le (zs := zs) (N := N) a
                    obtain ⟨⟨ob, m⟩, ho⟩ : ∃ o : OutP, o = ovS zs N a := ⟨_, rfl⟩
                    rw [← ho] at hfk hla hpos hle
                    simp only at hpos hle
                    clear ho hqa
                    cases ob
                    · have hx : scO (false, m) = -(m : Int) := by unfold scO; simp
                      rw [hx] at hla
                      obtain ⟨x, hxx⟩ : ∃ x, x = -(m : Int) := ⟨_, rfl⟩
                      rw [← hxx] at hla
                      have hx0 : x < 0 := by omega
                      have hd1 : decide (x < 0) = true := decide_eq_true hx0
                      have hw1 : IntKind.i64.wrap (1 - x) = ((m + 1 : Nat) : Int) := by rw [IntWalk.i64_in _ (by omega)]; omega
                      have hm5 : m + 1 ≤ 5000 := by omega
                      have hfk2 : f k = (true, m + 1) := by rw [hfk]; rfl
                      obtain ⟨y, hy⟩ : ∃ y : Int, y = ((m + 1 : Nat) : Int) := ⟨_, rfl⟩
                      have HN := Lib.hid (HWL.out.win hm5)
                      rw [← hfk2, ← HBs.out, ← hy] at HN
                      rw [← hy] at hw1
                      clear hfk hxx hx hy hfk2 hx0
                      by_cases hwin : win = 0
                      · have hd2 : (win == 0) = true := by rw [hwin]; rfl
                        rw [if_pos (.inl hwin)] at HN
                        clear hwin
                        go_wp2
                        go_roundw
                        case rel => exact ⟨k + 1, y, lose, by omega, by go_num, rfl, rfl, HN.out, by first | rfl | trivial⟩
                        case measure => simp [intOf]; omega
                      · have hd2 : (win == 0) = false := beq_eq_false_iff_ne.2 hwin
                        by_cases hyw : y < win
                        · have hd3 : decide (y < win) = true := decide_eq_true hyw
                          rw [if_pos (.inr hyw)] at HN
                          clear hwin
                          go_wp2
                          go_roundw
                          case rel => exact ⟨k + 1, y, lose, by omega, by go_num, rfl, rfl, HN.out, by first | rfl | trivial⟩
                          case measure => simp [intOf]; omega
                        · have hd3 : decide (y < win) = false := decide_eq_false hyw
                          have hd4 : win ≤ y := by omega
                          have hd5 : decide (0 < x) = false := decide_eq_false (by have := of_decide_eq_true hd1; omega)
                          have hd6 : x ≤ 0 := by have := of_decide_eq_true hd1; omega
                          rw [if_neg (by intro h; rcases h with h | h; exact hwin h; exact hyw h)] at HN
                          clear hwin hyw
                          go_wp2
                          go_roundw
                          case rel => exact ⟨k + 1, win, lose, by omega, by go_num, rfl, rfl, HN.out, by first | rfl | trivial⟩
                          case measure => simp [intOf]; omega
                    · have hx : scO (true, m) = (m : Int) := by unfold scO; simp
                      rw [hx] at hla
                      obtain ⟨x, hxx⟩ : ∃ x, x = (m : Int) := ⟨_, rfl⟩
                      rw [← hxx] at hla
                      have hd1 : decide (x < 0) = false := decide_eq_false (by omega)
                      have hd2 : decide (0 < x) = true := decide_eq_true (by omega)
                      have hx0 : 0 < x := by omega
                      have hx1 : (0 : Int) ≤ x := by omega
                      have hm5 : m + 1 ≤ 5000 := by omega
                      have hfk2 : f k = (false, m + 1) := by rw [hfk]; rfl
                      obtain ⟨y, hy⟩ : ∃ y : Int, y = ((m + 1 : Nat) : Int) := ⟨_, rfl⟩
                      have hw1 : IntKind.i64.wrap (1 + x) = y := by rw [IntWalk.i64_in _ (by omega)]; omega
                      have HN := Lib.hid (HWL.out.lose hm5)
                      rw [← hfk2, ← HBs.out, ← hy] at HN
                      clear hfk hxx hx hy hfk2
                      go_wp2_with (go_at_call 54; refine (gMost_any _ _ _).mono ?_; rintro e w9 ⟨rfl, hw9⟩; replace hw9 := hw9.symm; subst hw9)
                      go_roundw
                      case rel => exact ⟨k + 1, win, max lose y, by omega, by go_num, rfl, rfl, HN.out, by first | rfl | trivial⟩
                      case measure => simp [intOf]; omega
                  · rw [hqa] at hha
                    have hfk2 : f k = (true, 1) := by rw [hfk, ovS_home hqa]; rfl
                    have HN := Lib.hid HWL.out.home
                    rw [← hfk2, ← HBs.out] at HN
                    clear hfk hfk2 hqa
                    go_wp2
                    go_roundw
                    case rel => exact ⟨k + 1, 1, lose, by omega, by go_num, rfl, rfl, HN.out, by first | rfl | trivial⟩
                    case measure => simp [intOf]; omega
              · obtain rfl : k = n := by omega
                have HD := Lib.hid HWL.out.done
                rw [← HBK.out] at HD
                have hls := HRLr.out.cell hlt
                have hfs := HRLr.out.frozen S
                obtain ⟨sc, hsc⟩ : ∃ sc, sc = scO (ovS zs N S) := ⟨_, rfl⟩
                rw [← hsc] at HD
                have HSC := Lib.hid hsc
                have hLf : ∀ (wx : World), wx.rowIs lb 3 P (fun a => if a = S then .int .i64 sc else .int .i64 (lF zs N S a)) → wx.rowIs lb 3 P (fun a => .int .i64 (lF zs N (S + 1) a)) := fun wx hx => hx.congr (fun a _ => by
                  by_cases e : a = S
                  · subst e
                    rw [if_pos rfl, lF_at (Nat.lt_succ_self _), HSC.out]
                  · rw [if_neg e]
                    unfold lF
                    by_cases e2 : a < S
                    · rw [if_pos e2, if_pos (by omega)]
                    · rw [if_neg e2, if_neg (by omega)])
                have HLF := Lib.hid hLf
                clear hLf hsc
                by_cases hwin : win = 0
                · have hd2 : (win == 0) = true := by rw [hwin]; rfl
                  rw [if_pos hwin] at HD
                  have hng : IntKind.i64.wrap (-lose) = sc := by rw [IntWalk.i64_in _ (by omega)]; exact HD.out
                  clear hwin
                  go_wp2
                  go_roundw
                  case rel =>
                    first
                      | (have hbl := (HBlr.out.setCell (p := ⟨lb, S, none⟩) (by simp; omega) (.int .i64 win)).setCell (p := ⟨lb, S, none⟩) (by simp; omega) (.int .i64 sc)
                         exact ⟨S + 1, by omega, by go_num, (tkSet (tkSet HTr (by simp; omega) _) (by simp; omega) _).out, (HRHr.out.setOther (by simp; omega) _).setOther (by simp; omega) _, HLF.out _ (((HRLr.out.set S _).set S _).congr (fun a _ => by by_cases e : a = S <;> simp [e])), (boxSetG (boxSetG HBXr (by simp; omega) _ (HH.out _ (HBlr.out.setCell (by simp; omega) _))) (by simp; omega) _ (HH.out _ hbl)).out, hbl⟩)
                      | (have hbl := HBlr.out.setCell (p := ⟨lb, S, none⟩) (by simp; omega) (.int .i64 sc)
                         exact ⟨S + 1, by omega, by go_num, (tkSet HTr (by simp; omega) _).out, HRHr.out.setOther (by simp; omega) _, HLF.out _ (HRLr.out.set S _), (boxSetG HBXr (by simp; omega) _ (HH.out _ hbl)).out, hbl⟩)
                  case measure => simp [intOf]; omega
                · have hd2 : (win == 0) = false := beq_eq_false_iff_ne.2 hwin
                  rw [if_neg hwin] at HD
                  obtain rfl : win = sc := HD.out
                  clear hwin
                  go_wp2
                  go_roundw
                  case rel =>
                    have hbl := HBlr.out.setCell (p := ⟨lb, S, none⟩) (by simp; omega) (.int .i64 win)
                    exact ⟨S + 1, by omega, by go_num, (tkSet HTr (by simp; omega) _).out, HRHr.out.setOther (by simp; omega) _, HLF.out _ (HRLr.out.set S _), (boxSetG HBXr (by simp; omega) _ (HH.out _ hbl)).out, hbl⟩
                  case measure => simp [intOf]; omega
          · have HO := Lib.hid (ovS_home (zs := zs) (N := N) HQ.out.symm)
            go_wp2
            go_roundw
            case rel =>
              refine ⟨S + 1, by omega, by go_num, HTr.out, HRHr.out, HRLr.out.congr (fun a _ => ?_), HBXr.out, HBlr.out⟩
              by_cases e : a = S
              · subst e
                rw [lF_at (Nat.lt_succ_self _), HO.out]
                unfold lF
                rw [if_neg (by omega)]
                rfl
              · unfold lF
                by_cases e2 : a < S
                · rw [if_pos e2, if_pos (by omega)]
                · rw [if_neg e2, if_neg (by omega)]
            case measure => simp [intOf]; omega
      · obtain rfl : S = P := by omega
        clear hTK hRH hRL hBX hBel
        go_wp2
        go_ret
        exact ⟨g, hb, lb, rfl, HTr.out, HRHr.out.congr (fun a ha => by rw [hF_at ha]), HRLr.out.congr (fun a ha => by rw [lF_at ha]), HBlr.out⟩
end Go.Proofs.Ytiapbmgpjloafaa
