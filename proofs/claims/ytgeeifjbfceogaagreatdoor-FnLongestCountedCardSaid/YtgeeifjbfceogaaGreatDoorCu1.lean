/- The draws: a cursor over bytes. What is kept of it: it stays one; what it gives lies between bounds. -/
import Derived.Test.YtgeeifjbfceogaaGreatDoorStP
import Derived.Test.YtgeeifjbfceogaaGreatDoorMgC
import Derived.IntWalk
import Derived.Deep.QuietTactic
import Derived.BigQuiet
import Derived.Laws.BitsAllLaws
namespace Go.Proofs.YtgeeifjbfceogaaGreatDoor
open Go Go.RowKit

/-- the bytes bs lie at A -/
def BI (w : World) (A : Option Addr) (n : Nat) (bs : List Int) : Prop :=
  bs.length = n ∧ (∀ j, j < n → 0 ≤ gi bs j ∧ gi bs j ≤ 255) ∧ (0 < n → ∃ b off, A = some ⟨b, off, none⟩ ∧ b < w.heap.size ∧ ∀ j, j < n → w.cell? ⟨b, off + j, none⟩ = some (.int .u8 (gi bs j)))

theorem BI.grown {w w' : World} {A : Option Addr} {n : Nat} {bs : List Int} {row : Option Nat} (h : BI w A n bs) (hg : w.grownBy w' row) (hne : 0 < n → row ≠ blk A) : BI w' A n bs := by
  refine ⟨h.1, h.2.1, fun hn => ?_⟩
  obtain ⟨b, off, rfl, hb, hc⟩ := h.2.2 hn
  refine ⟨b, off, rfl, Nat.lt_of_lt_of_le hb hg.size, fun j hj => ?_⟩
  rw [World.cell?_of_block (w := w) (a := ⟨b, off + j, none⟩) (hg.block b hb (fun e => hne hn e.symm))]
  exact hc j hj
theorem BI.below {w w' : World} {A : Option Addr} {n : Nat} {bs : List Int} {K : Nat} (h : BI w A n bs) (hb : Below K w w') (hK : w.heap.size ≤ K) : BI w' A n bs := by
  refine ⟨h.1, h.2.1, fun hn => ?_⟩
  obtain ⟨b, off, rfl, hl, hc⟩ := h.2.2 hn
  exact ⟨b, off, rfl, Nat.lt_of_lt_of_le hl hb.size, fun j hj => (hb.cell (p := ⟨b, off + j, none⟩) (Nat.lt_of_lt_of_le hl hK)).trans (hc j hj)⟩

/-- block b holds the cursor -/
structure Cur (w : World) (b : Nat) (A : Option Addr) (n c : Nat) (bs : List Int) (k : Nat) : Prop where
  ex : ∃ a s : Int, 0 ≤ a ∧ a ≤ k ∧ w.cell? ⟨b, 0, none⟩ = some (.slice A n c) ∧ w.cell? ⟨b, 1, none⟩ = some (.int .i64 a) ∧ w.cell? ⟨b, 2, none⟩ = some (.int .u64 s)
  f1 : w.frozen? ⟨b, 1, none⟩ = false
  f2 : w.frozen? ⟨b, 2, none⟩ = false
  lt : b < w.heap.size
  bi : BI w A n bs
  ne : 0 < n → some b ≠ blk A

/-- a number that is drawn, and the cursor goes on -/
def Drawn (w : World) (b : Nat) (A : Option Addr) (n c : Nat) (bs : List Int) (k : Nat) (m : Int) (e : Ending) (w' : World) : Prop :=
  ∃ v : Int, e = .returned (.int .i64 v) ∧ 0 ≤ v ∧ v ≤ m ∧ Cur w' b A n c bs k ∧ w.grownBy w' (some b)

section
variable {w : World} {b : Nat} {A : Option Addr} {n c : Nat} {bs : List Int} {k : Nat}
theorem Cur.drewN (h : Cur w b A n c bs k) (m : Nat) : Cur (w.drewN m) b A n c bs k := ⟨h.ex, h.f1, h.f2, h.lt, h.bi, h.ne⟩
theorem grown_drewN {a : World} {row : Option Nat} (h : a.grownBy w row) (m : Nat) : a.grownBy (w.drewN m) row := ⟨h.os, h.tape, h.output, h.size, h.block⟩
theorem Cur.le (h : Cur w b A n c bs k) {k' : Nat} (hk : k ≤ k') : Cur w b A n c bs k' := by
  obtain ⟨a, s, a0, ak, r⟩ := h.ex
  exact ⟨⟨a, s, a0, by omega, r⟩, h.f1, h.f2, h.lt, h.bi, h.ne⟩
theorem Cur.grown {w' : World} (h : Cur w b A n c bs k) {row : Option Nat} (hg : w.grownBy w' row) (h1 : row ≠ some b) (h2 : 0 < n → row ≠ blk A) : Cur w' b A n c bs k := by
  have e : w'.heap[b]? = w.heap[b]? := hg.block b h.lt (fun e => h1 e.symm)
  obtain ⟨a, s, a0, ak, k0, k1, k2⟩ := h.ex
  exact ⟨⟨a, s, a0, ak, (World.cell?_of_block (w := w) (a := ⟨b, 0, none⟩) e).trans k0, (World.cell?_of_block (w := w) (a := ⟨b, 1, none⟩) e).trans k1, (World.cell?_of_block (w := w) (a := ⟨b, 2, none⟩) e).trans k2⟩,
    (World.frozen?_of_block (w := w) (a := ⟨b, 1, none⟩) e).trans h.f1, (World.frozen?_of_block (w := w) (a := ⟨b, 2, none⟩) e).trans h.f2, Nat.lt_of_lt_of_le h.lt hg.size, h.bi.grown hg h2, h.ne⟩
theorem Cur.below {w' : World} (h : Cur w b A n c bs k) (hb : Below w.heap.size w w') : Cur w' b A n c bs k := by
  obtain ⟨a, s, a0, ak, k0, k1, k2⟩ := h.ex
  exact ⟨⟨a, s, a0, ak, (hb.cell (p := ⟨b, 0, none⟩) h.lt).trans k0, (hb.cell (p := ⟨b, 1, none⟩) h.lt).trans k1, (hb.cell (p := ⟨b, 2, none⟩) h.lt).trans k2⟩,
    (hb.frozen (p := ⟨b, 1, none⟩) h.lt).trans h.f1, (hb.frozen (p := ⟨b, 2, none⟩) h.lt).trans h.f2, Nat.lt_of_lt_of_le h.lt hb.size, h.bi.below hb (Nat.le_refl _), h.ne⟩
theorem Cur.set (h : Cur w b A n c bs k) (a s : Int) (a0 : 0 ≤ a) (k' : Nat) (ak : a ≤ k') : Cur ((w.setCell ⟨b, 1, none⟩ (.int .i64 a)).setCell ⟨b, 2, none⟩ (.int .u64 s)) b A n c bs k' := by
  obtain ⟨a', s', _, _, k0, k1, k2⟩ := h.ex
  have g1 : w.grownBy (w.setCell ⟨b, 1, none⟩ (.int .i64 a)) (some b) := grown_setCell (g := b) (grown_refl w _) (.inl rfl) _
  have g2 : w.grownBy ((w.setCell ⟨b, 1, none⟩ (.int .i64 a)).setCell ⟨b, 2, none⟩ (.int .u64 s)) (some b) := grown_setCell (g := b) g1 (.inl rfl) _
  exact ⟨⟨a, s, a0, ak, by rw [World.cell?_setCell_other _ _ _ _ (by simp), World.cell?_setCell_other _ _ _ _ (by simp)]; exact k0,
      by rw [World.cell?_setCell_other _ _ _ _ (by simp)]; exact World.cell?_setCell_same _ _ _ k1,
      World.cell?_setCell_same _ _ _ (by rw [World.cell?_setCell_other _ _ _ _ (by simp)]; exact k2)⟩,
    by simpa [go_sem] using h.f1, by simpa [go_sem] using h.f2, by simpa [World.setCell] using h.lt, h.bi.grown g2 h.ne, h.ne⟩
theorem grownTr {w1 w2 w3 : World} {row : Option Nat} (h1 : w1.grownBy w2 row) (h2 : w2.grownBy w3 row) : w1.grownBy w3 row :=
  ⟨h2.os.trans h1.os, h2.tape.trans h1.tape, h2.output.trans h1.output, Nat.le_trans h1.size h2.size, fun i hi hne => (h2.block i (Nat.lt_of_lt_of_le hi h1.size) hne).trans (h1.block i hi hne)⟩
theorem grown_set2 (w : World) (b : Nat) (x y : Value) : w.grownBy ((w.setCell ⟨b, 1, none⟩ x).setCell ⟨b, 2, none⟩ y) (some b) :=
  grown_setCell (g := b) (grown_setCell (g := b) (grown_refl w _) (.inl rfl) x) (.inl rfl) y
end
/-- what the cursor's second half tells -/
theorem drawnRet {w : World} {b : Nat} {A : Option Addr} {n c : Nat} {bs : List Int} {k : Nat} (h : Hid (Cur w b A n c bs k)) (m1 m2 : Nat) (a s v : Int) (a0 : 0 ≤ a) (ak : a ≤ k) (v0 : 0 ≤ v) (v1 : v ≤ 255) :
    Drawn w b A n c bs (k + 1) 255 (.returned (.int .i64 v)) (((((w.drewN m1).setCell ⟨b, 1, none⟩ (.int .i64 (a + 1))).setCell ⟨b, 2, none⟩ (.int .u64 s))).drewN m2) :=
  ⟨v, rfl, v0, v1, (((h.out.drewN m1).set (a + 1) s (by omega) (k + 1) (by omega))).drewN m2, grown_drewN (grown_setCell (g := b) (grown_setCell (g := b) (grown_drewN (grown_refl w _) m1) (.inl rfl) _) (.inl rfl) _) m2⟩

theorem lastByte (y : Int) : 0 ≤ wrap64 (bits BinOp.and IntKind.u64 (IntKind.u64.wrap y / 1099511627776) 255) ∧ wrap64 (bits BinOp.and IntKind.u64 (IntKind.u64.wrap y / 1099511627776) 255) ≤ 255 := by
  have h0 : 0 ≤ IntKind.u64.wrap y / 1099511627776 := by rw [IntKind.wrap_u64]; omega
  have h1 : IntKind.u64.wrap y / 1099511627776 < 18446744073709551616 := by rw [IntKind.wrap_u64]; omega
  rw [u64_and _ _ h0 h1 (by decide) (by decide)]
  have h2 : (IntKind.u64.wrap y / 1099511627776).toNat &&& (255 : Int).toNat ≤ 255 := Nat.and_le_right
  unfold wrap64
  omega

set_option maxHeartbeats 1000000 in
theorem next_any (b : Nat) (A : Option Addr) (n c : Nat) (bs : List Int) (k : Nat) (w : World) (h : Cur w b A n c bs k) (hn : n ≤ 1048576) (hk : k ≤ 1000000000) :
    Calls Tryz.prog 109 #[.pointer (some ⟨b, 0, none⟩)] w (Drawn w b A n c bs (k + 1) 255) := by
  obtain ⟨a, s, a0, ak, k0, k1, k2⟩ := h.ex
  have f1 := h.f1; have f2 := h.f2; have hl := h.lt
  have HC := Lib.hid h
  by_cases ha : a < n
  · obtain ⟨q, rfl⟩ : ∃ q : Nat, a = q := ⟨a.toNat, by omega⟩
    have hq : q < n := by omega
    have hb0 := h.bi
    obtain ⟨g, off, hA, hg, hc⟩ := hb0.2.2 (by omega)
    have hcq := hc q hq
    have hv := hb0.2.1 q hq
    subst hA
    clear hc hb0 h
    go_enter Tryz.func109, Tryz.ntmps109
    go_wp2
    go_quiet (fail)
    go_wp2
    go_quiet (fail)
    go_wp2
    go_quiet (fail)
    go_wp2
    go_ret
    exact drawnRet HC _ _ _ _ _ (by omega) (by omega) hv.1 hv.2
  · have hm : ¬ (a + 1 ≤ (n : Int)) := by omega
    clear h
    go_enter Tryz.func109, Tryz.ntmps109
    go_wp2
    go_quiet (fail)
    go_wp2
    go_quiet (fail)
    go_wp2
    go_ret
    obtain ⟨v0, v1⟩ := lastByte (IntKind.u64.wrap (IntKind.u64.wrap (s * 6364136223846793005)) + 1442695040888963407)
    exact drawnRet HC _ _ _ _ _ a0 ak v0 v1

/-- what is kept where another number is drawn -/
theorem Drawn.of {w w1 w' : World} {b : Nat} {A : Option Addr} {n c : Nat} {bs : List Int} {k1 k : Nat} {m : Int} {v : Int} {e : Ending} (hg : w.grownBy w1 (some b)) (he : e = .returned (.int .i64 v)) (v0 : 0 ≤ v) (v1 : v ≤ m)
    (hc : Cur w' b A n c bs k1) (hg2 : w1.grownBy w' (some b)) (hk : k1 ≤ k) : Drawn w b A n c bs k m e w' :=
  ⟨v, he, v0, v1, hc.le hk, grownTr hg hg2⟩

set_option maxHeartbeats 1000000 in
theorem pick_any (b : Nat) (A : Option Addr) (n c : Nat) (bs : List Int) (k : Nat) (m : Int) (w : World) (h : Cur w b A n c bs k) (hn : n ≤ 1048576) (hk : k ≤ 100000000) (hm : m ≤ 1000000) :
    Calls Tryz.prog 99 #[.pointer (some ⟨b, 0, none⟩), .int .i64 m] w (Drawn w b A n c bs (k + 2) (if 1 < m then m - 1 else 0)) := by
  by_cases h1 : m ≤ 1
  · have e : (if 1 < m then m - 1 else 0) = 0 := by rw [if_neg (by omega)]
    rw [e]
    have HC := Lib.hid h
    clear h e
    go_enter Tryz.func99, Tryz.ntmps99
    go_wp2
    go_ret
    exact ⟨0, rfl, by omega, by omega, HC.out.le (by omega), grown_refl _ _⟩
  · have e : (if 1 < m then m - 1 else 0) = m - 1 := by rw [if_pos (by omega)]
    rw [e]
    have HC := Lib.hid h
    clear h e
    have m0 : (m == 0) = false := by simp; omega
    by_cases h2 : m ≤ 200
    · go_enter Tryz.func99, Tryz.ntmps99
      go_wp2_with fail
      refine (next_any b A n c bs k _ HC.out hn (by omega)).mono ?_
      rintro e w1 ⟨v, rfl, v0, v1, hc, hg⟩
      have HC1 := Lib.hid hc
      have HG := Lib.hid hg
      clear hc hg HC
      go_wp2
      go_ret
      exact ⟨_, rfl, Int.emod_nonneg _ (by omega), by have := Int.emod_lt_of_pos v (by omega : 0 < m); omega, HC1.out.le (by omega), HG.out⟩
    · go_enter Tryz.func99, Tryz.ntmps99
      go_wp2_with fail
      refine (next_any b A n c bs k _ HC.out hn (by omega)).mono ?_
      rintro e w1 ⟨v, rfl, v0, v1, hc, hg⟩
      have HC1 := Lib.hid hc
      have HG := Lib.hid hg
      clear hc hg HC
      go_wp2_with fail
      refine (next_any b A n c bs (k + 1) _ HC1.out hn (by omega)).mono ?_
      rintro e w2 ⟨v2, rfl, v20, v21, hc, hg⟩
      have HC2 := Lib.hid hc
      have HG2 := Lib.hid (grownTr HG.out hg)
      clear hc hg HC1
      go_wp2
      go_ret
      exact ⟨_, rfl, Int.emod_nonneg _ (by omega), by have := Int.emod_lt_of_pos (v * 256 + v2) (by omega : 0 < m); omega, HC2.out.le (by omega), HG2.out⟩

/-- an element of a list is drawn -/
def DrawnOf (w : World) (b : Nat) (A : Option Addr) (n c : Nat) (bs : List Int) (k : Nat) (zs : List Int) (e : Ending) (w' : World) : Prop :=
  ∃ j : Nat, e = .returned (.int .i64 (gi zs j)) ∧ j < zs.length ∧ Cur w' b A n c bs k ∧ w.grownBy w' (some b)

set_option maxHeartbeats 1000000 in
theorem among_any (b : Nat) (A : Option Addr) (n c : Nat) (bs : List Int) (k : Nat) (A2 : Option Addr) (n2 c2 : Nat) (zs : List Int) (w : World) (h : Cur w b A n c bs k) (hn : n ≤ 1048576) (hk : k ≤ 100000000)
    (hr : RI w A2 n2 zs) (h0 : 0 < n2) (h1 : n2 ≤ 1000) (hne : blk A2 ≠ some b) :
    Calls Tryz.prog 86 #[.pointer (some ⟨b, 0, none⟩), .slice A2 n2 c2] w (DrawnOf w b A n c bs (k + 2) zs) := by
  have HC := Lib.hid h
  have hz := hr.1
  obtain ⟨g, off, rfl, hg0, hc0⟩ := hr.2 h0
  have HR := Lib.hid hc0
  clear h hr hc0
  go_enter Tryz.func86, Tryz.ntmps86
  go_wp2_with fail
  refine (pick_any b A n c bs k (n2 : Int) _ HC.out hn hk (by omega)).mono ?_
  rintro e w1 ⟨v, rfl, v0, v1, hc, hg⟩
  have hv : v < n2 := by
    by_cases h2 : 1 < (n2 : Int)
    · rw [if_pos h2] at v1; omega
    · rw [if_neg h2] at v1; omega
  obtain ⟨q, rfl⟩ : ∃ q : Nat, v = q := ⟨v.toNat, by omega⟩
  have hq : q < n2 := by omega
  have hcq : w1.cell? ⟨g, off + q, none⟩ = some (.int .i64 (gi zs q)) := by
    rw [World.cell?_of_block (w := w) (a := ⟨g, off + q, none⟩) (hg.block g hg0 (fun e => hne (by simp [blk]; injection e)))]
    exact HR.out q hq
  have HC1 := Lib.hid hc
  have HG := Lib.hid hg
  clear hc hg HC v1 hne
  go_wp2
  go_ret
  exact ⟨q, rfl, by omega, HC1.out, HG.out⟩
end Go.Proofs.YtgeeifjbfceogaaGreatDoor
