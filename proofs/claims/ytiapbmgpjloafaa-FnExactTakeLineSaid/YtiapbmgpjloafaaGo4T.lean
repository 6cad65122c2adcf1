/- Games of rungs, the taking game: who can win, in how many moves, and with which choices. -/
import Derived.Test.YtiapbmgpjloafaaGo3T
import Derived.Test.YtiapbmgpjloafaaMgB
namespace Go.Proofs.Ytiapbmgpjloafaa
open Go Go.RowKit

theorem fieldWinsT (u v : Value) (w : World) : (Instr.field 75 (.agg #[u, v]) 0).run Try.prog w = .ok u w := by kernel_rfl
theorem fieldMovesT (u v : Value) (w : World) : (Instr.field 75 (.agg #[u, v]) 1).run Try.prog w = .ok v w := by kernel_rfl
section
variable {posV : Nat → Value} {good : Nat → Prop} {ch : Nat → List Int} {nx : Nat → Nat → Nat} {won : Nat → Bool} {ov : Nat → OutP} {Lnd : World → Prop} {b : Nat}

set_option maxRecDepth 100000 in
set_option maxHeartbeats 1000000 in
theorem canWinT_any (V : Nat → Option OutP) (hV : ∀ p, good p → V p = some (ov p)) (G : GmT posV good ch nx won ov Lnd b) (p : Nat) (hp : good p) (w : World) (hL : Lnd w) (hM : Memo w b V) :
    Calls Try.prog 36 #[.map (some b), .iface 70 (posV p)] w (fun e w' => e = .returned (.bool (ov p).1) ∧ w.grownBy w' (some b)) := by
  have H := Lib.hid (ofT_any V hV G (p + 1) p (by omega) hp w hL hM)
  obtain ⟨⟨q, m⟩, hq⟩ : ∃ o, o = ov p := ⟨_, rfl⟩
  obtain ⟨v, hv⟩ : ∃ v, v = posV p := ⟨_, rfl⟩
  rw [← hq, ← hv] at H
  rw [← hq, ← hv]
  unfold OfPostT ovV at H
  clear hL hM hp hV G hq hv
  go_enter Try.func36, Try.ntmps36
  go_wp2_with fail
  refine H.out.mono ?_
  rintro e w1 ⟨rfl, hm, hg⟩
  have HG := Lib.hid hg
  clear hm hg H
  have hfw := fieldWinsT
  have hfm := fieldMovesT
  go_wp2
  go_ret
  exact ⟨rfl, HG.out⟩

set_option maxRecDepth 100000 in
set_option maxHeartbeats 1000000 in
theorem lengthT_any (V : Nat → Option OutP) (hV : ∀ p, good p → V p = some (ov p)) (G : GmT posV good ch nx won ov Lnd b) (p : Nat) (hp : good p) (w : World) (hL : Lnd w) (hM : Memo w b V) :
    Calls Try.prog 41 #[.map (some b), .iface 70 (posV p)] w (fun e w' => e = .returned (.int .i64 ((ov p).2 : Int)) ∧ w.grownBy w' (some b)) := by
  have H := Lib.hid (ofT_any V hV G (p + 1) p (by omega) hp w hL hM)
  obtain ⟨⟨q, m⟩, hq⟩ : ∃ o, o = ov p := ⟨_, rfl⟩
  obtain ⟨v, hv⟩ : ∃ v, v = posV p := ⟨_, rfl⟩
  rw [← hq, ← hv] at H
  rw [← hq, ← hv]
  unfold OfPostT ovV at H
  clear hL hM hp hV G hq hv
  go_enter Try.func41, Try.ntmps41
  go_wp2_with fail
  refine H.out.mono ?_
  rintro e w1 ⟨rfl, hm, hg⟩
  have HG := Lib.hid hg
  clear hm hg H
  have hfw := fieldWinsT
  have hfm := fieldMovesT
  go_wp2
  go_ret
  exact ⟨rfl, HG.out⟩

def gdT (ch : Nat → List Int) (nx : Nat → Nat → Nat) (ov : Nat → OutP) (p : Nat) : List Int := gdK (fun j => behP (ov (nx p (gi (ch p) j).toNat))) (ch p) (ch p).length

set_option maxRecDepth 100000 in
set_option maxHeartbeats 2000000 in
theorem goodChoicesT_any (V : Nat → Option OutP) (hV : ∀ p, good p → V p = some (ov p)) (G : GmT posV good ch nx won ov Lnd b) (p : Nat) (hp : good p) (w : World) (hL : Lnd w) (hM : Memo w b V) :
    Calls Try.prog 38 #[.map (some b), .iface 70 (posV p)] w
      (fun e w' => ∃ A c, e = .returned (.slice A (gdT ch nx ov p).length c) ∧ OI w' w.heap.size A (gdT ch nx ov p).length c (gdT ch nx ov p) ∧ w.grownBy w' (some b)) := by
  have HKp := Lib.hid G.keep
  have HCHO := Lib.hid (fun w2 (l : Lnd w2) => G.cho p w2 hp l)
  have HBEH := Lib.hid (fun j (hj : j < (ch p).length) w2 (l : Lnd w2) (m : Memo w2 b V) => behindJT V G p hp j hj w2 l m (fun i hi => by
    obtain ⟨h1, h2⟩ := G.nxt p i hp hi
    exact Lib.hid (fun w3 l3 m3 => ofT_any V hV G _ (nx p i) (Nat.lt_succ_self _) h1 w3 l3 m3)))
  have hlen := G.len p hp
  have HCHN := Lib.hid (fun j (hj : j < (ch p).length) => G.chn p j hp hj)
  unfold gdT
  obtain ⟨f, hf⟩ : ∃ f : Nat → OutP, f = fun j => behP (ov (nx p (gi (ch p) j).toNat)) := ⟨_, rfl⟩
  have hfj : ∀ j, behP (ov (nx p (gi (ch p) j).toNat)) = f j := fun j => by rw [hf]
  simp only [hfj] at HBEH
  rw [← hf]
  obtain ⟨v, hv⟩ : ∃ v, v = posV p := ⟨_, rfl⟩
  rw [← hv] at HCHO HBEH
  rw [← hv]
  obtain ⟨L, hLL⟩ : ∃ L, L = ch p := ⟨_, rfl⟩
  rw [← hLL] at HCHO HBEH hlen HCHN ⊢
  obtain ⟨m, hm⟩ : ∃ m, m = L.length := ⟨_, rfl⟩
  rw [← hm] at HCHO HBEH hlen HCHN ⊢
  have hbw : b < w.heap.size := hM.lt
  have HLw := Lib.hid hL
  have HM0 := Lib.hid hM
  clear hL hM hv hf hfj hLL hp hV G hm
  go_enter Try.func38, Try.ntmps38
  go_wp2_with fail
  refine (HCHO.out _ HLw.out).mono ?_
  rintro e w1 ⟨C1, d1, rfl, o1, hb⟩
  have HM1 := memoBelow HM0 hb
  have HG1 := grBelow (grRefl w b) hb
  have HO1 := Lib.hid o1
  have hz1 := hb.size
  clear hb o1 HM0 HCHO
  go_wp2
  go_loopw [5, 11] (fun v i wr => ∃ (j : Nat) (E : Option Addr) (d : Nat), j ≤ m ∧ i = .int .i64 (j : Int) ∧ v = .slice E (gdK f L j).length d ∧ OI wr w1.heap.size E (gdK f L j).length d (gdK f L j) ∧ Memo wr b V ∧ OI wr w.heap.size C1 m d1 L ∧ w.grownBy wr (some b) ∧ w1.heap.size ≤ wr.heap.size) (fun _ i _ => m - (intOf i).toNat)
  case atStart => exact ⟨0, none, 0, Nat.zero_le _, rfl, rfl, OI.none_ _ _, HM1.out, HO1.out, HG1.out, Nat.le_refl _⟩
  case round =>
    obtain ⟨j, E, d, hj, rfl, rfl, hE, hM, hO, hG, hzr⟩ := hrel
    have HEr := Lib.hid hE; have HMr := Lib.hid hM; have HOr := Lib.hid hO; have HGr := Lib.hid hG
    have hgl := gdK_len f L j
    clear hE hM hG
    by_cases hlt : j < m
    · obtain ⟨cb, rfl⟩ : ∃ cb, C1 = some ⟨cb, 0, none⟩ := by
        rcases hO.form with ⟨_, _, h0⟩ | ⟨g, cur, e, _⟩
        · omega
        · exact ⟨g, e⟩
      have hck := cellsGo hO j hlt
      have hjm : (j : Int) < (m : Int) := by omega
      have HBj := Lib.hid (fun w2 l m9 => HBEH.out j hlt w2 l m9)
      obtain ⟨x, hx⟩ : ∃ x, x = gi L j := ⟨_, rfl⟩
      rw [← hx] at hck HBj
      have HX := Lib.hid hx
      obtain ⟨⟨fq, fm⟩, hfj⟩ : ∃ o : OutP, o = f j := ⟨_, rfl⟩
      rw [← hfj] at HBj
      have HFJ := Lib.hid hfj
      unfold OfPostT ovV at HBj
      clear hO hx hfj
      go_wp2_with fail
      refine (HBj.out _ (HKp.out _ _ HLw.out HGr.out) HMr.out).mono ?_
      rintro e w4 ⟨rfl, hm4, hg4⟩
      replace HMr := Lib.hid hm4
      replace HEr := oiGr HEr hg4 (by omega)
      replace HOr := oiGr HOr hg4 (by omega)
      replace HGr := grTrans HGr hg4
      have hz4 := hg4.size
      clear hm4 hg4 HBj
      have hfw := fieldWinsT
      cases fq
      · have HSt := Lib.hid (gdK_no (f := f) (L := L) (k := j) (by rw [← HFJ.out]))
        go_wp2
        go_roundw
        case rel => exact ⟨j + 1, E, d, by omega, by go_num, by rw [HSt.out], by rw [HSt.out]; exact HEr.out, HMr.out, HOr.out, HGr.out, by omega⟩
        case measure => simp [intOf]; omega
      · have HSt := Lib.hid (gdK_yes (f := f) (L := L) (k := j) (by rw [← HFJ.out]))
        have HSl := Lib.hid (show (gdK f L (j + 1)).length = (gdK f L j).length + 1 by rw [gdK_yes (by rw [← HFJ.out])]; simp)
        go_wp2_with (at_builtin; refine wpList_append_int _ rfl _ _ rfl w1.heap.size E (gdK f L j).length d _ x _ rfl rfl (HEr.out.alloc _) (by simp) (by omega) (by simp; omega) ?_; intro E5 d5 w5 ho5 hg5)
        have hEb := fun y (hy : blk E = some y) => (HEr.out.blk y hy).1
        have HM5 := memoOther (memoAlloc HMr _) hg5 (fun y hy => by have := hEb y hy; omega)
        have HG5 := grOther (grAlloc HGr _) hg5 (fun y hy => by have := hEb y hy; omega)
        have HO5 : Hid (OI w5 w.heap.size (some ⟨cb, 0, none⟩) m d1 L) := Lib.hid ((HOr.out.alloc _).kept hg5 (fun y hy e => by
          have h1 := hEb y e
          have h2 := (HO1.out.blk y hy).2
          omega))
        have hz5 : w4.heap.size + 1 ≤ w5.heap.size := by have := hg5.size; simpa using this
        have HE5 := Lib.hid ho5
        clear hg5 ho5 hEb
        go_roundw
        case rel => exact ⟨j + 1, E5, d5, by omega, by go_num, by rw [HSl.out], by rw [HSl.out, HSt.out, ← HX.out]; exact HE5.out, HM5.out, HO5.out, HG5.out, by omega⟩
        case measure => simp [intOf]; omega
    · obtain rfl : j = m := by omega
      clear hO
      go_wp2
      go_ret
      exact ⟨E, d, rfl, HEr.out.mono (by omega), HGr.out⟩
end
end Go.Proofs.Ytiapbmgpjloafaa
