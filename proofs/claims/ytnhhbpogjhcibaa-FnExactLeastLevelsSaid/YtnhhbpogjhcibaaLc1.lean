/- LeastLevels, of the program: which levels make an order easier. -/
import Derived.Test.YtnhhbpogjhcibaaDp2
namespace Go.Proofs.Ytnhhbpogjhcibaa
open Go Go.RowKit Go.Maps

/-- what the function looks at: the map in one box, the order's seats in another -/
structure Lk (w : World) (n b4 b7 bm nb : Nat) (D : DataW Unit) (p : List Int) : Prop where
  c4 : w.cell? ⟨b4, 0, none⟩ = some (.map (some bm))
  h4 : b4 < w.heap.size
  c7 : w.heap[b7]? = some (.cells (I (seats p)).toArray 62 (0, 0))
  os : OS w bm nb D
  md : MD n (ordsK n n) (dep n) D
  ok : OKp n p
section
variable {w wi wj : World} {n b4 b7 bm nb : Nat} {D : DataW Unit} {p : List Int}
theorem Lk.h7 (h : Lk w n b4 b7 bm nb D p) : b7 < w.heap.size := (Array.getElem?_eq_some_iff.1 h.c7).1
theorem Lk.below (h : Lk wi n b4 b7 bm nb D p) (hb : Below wi.heap.size wi wj) : Lk wj n b4 b7 bm nb D p :=
  ⟨(hb.cell (p := ⟨b4, 0, none⟩) h.h4).trans h.c4, Nat.lt_of_lt_of_le h.h4 hb.size, (hb.block b7 h.h7).trans h.c7, h.os.kept (grown_of_below hb none) (by simp), h.md, h.ok⟩
end

set_option maxRecDepth 100000 in
set_option maxHeartbeats 2000000 in
theorem leastC_any (n b4 b7 bm nb : Nat) (D : DataW Unit) (p : List Int) (la : Option Addr) (lm ld : Nat) (l : List Int) (w : World) (h2 : 2 ≤ n) (h6 : n ≤ 6) (h : Lk w n b4 b7 bm nb D p) (hr : RI w la lm l) (hlm : lm ≤ 1048576) (hl : l ∈ LV n) :
    Calls Try.prog 63 #[.slice la lm ld, .pointer (some ⟨b4, 0, none⟩), .pointer (some ⟨b7, 0, none⟩)] w (RetB (decide (dep n (top p l) < dep n p)) w) := by
  have hok := h.ok
  have hX : thn (sl8 l) (seats p) = seats (top p l) := thn_top (by omega) (by omega) hok.2 (LV_mem hl)
  have hxo : OKp n (top p l) := top_ok l hok (LV_mem hl)
  have hall := (ordsK_all (n := n) (by omega) (by omega)).mem
  have hi8 := seatsIn (n := n) (by omega) hok
  have hx8 := seatsIn (n := n) (by omega) hxo
  have HLK1 : ∀ w', OS w' bm nb D → (Instr.lookup 59 (.map (some bm)) (.agg #[.int .i64 (gi (seats (top p l)) 0), .int .i64 (gi (seats (top p l)) 1), .int .i64 (gi (seats (top p l)) 2), .int .i64 (gi (seats (top p l)) 3), .int .i64 (gi (seats (top p l)) 4), .int .i64 (gi (seats (top p l)) 5), .int .i64 (gi (seats (top p l)) 6), .int .i64 (gi (seats (top p l)) 7)]) false).run Try.prog w' = .ok (.int .i64 (dep n (top p l) : Int)) w' := fun w' ho => ho.look h.md ((hall _).2 hxo) hx8
  have HLK2 : ∀ w', OS w' bm nb D → (Instr.lookup 59 (.map (some bm)) (.agg #[.int .i64 (gi (seats p) 0), .int .i64 (gi (seats p) 1), .int .i64 (gi (seats p) 2), .int .i64 (gi (seats p) 3), .int .i64 (gi (seats p) 4), .int .i64 (gi (seats p) 5), .int .i64 (gi (seats p) 6), .int .i64 (gi (seats p) 7)]) false).run Try.prog w' = .ok (.int .i64 (dep n p : Int)) w' := fun w' ho => ho.look h.md ((hall _).2 hok) hi8
  have hsl : (sl8 l).length = 8 := sl8_length l
  have hin : In8 (sl8 l) := by
    rw [sl8_eq (n := n) (by omega) (fun x hx => (LV_mem hl x hx).2)]
    exact seatsIn (n := n) (by omega) (top_ok l (upto_ok (by omega) (by omega)) (LV_mem hl))
  obtain ⟨ss, hss⟩ : ∃ ss, ss = seats p := ⟨_, rfl⟩
  obtain ⟨ls, hls⟩ : ∃ ls, ls = sl8 l := ⟨_, rfl⟩
  obtain ⟨xs, hxs⟩ : ∃ xs, xs = seats (top p l) := ⟨_, rfl⟩
  have HC7 : Hid (w.heap[b7]? = some (.cells (I ss).toArray 62 (0, 0))) := Lib.hid (by rw [hss]; exact h.c7)
  have HH7 := Lib.hid h.h7
  have HC4 := Lib.hid h.c4
  have HH4 := Lib.hid h.h4
  have HOS := Lib.hid h.os
  have HLS : Hid (∀ w', RI w' la lm l → Calls Try.prog 64 #[.slice la lm ld] w' (fun e w'' => e = .returned (.agg #[.int .i64 (gi ls 0), .int .i64 (gi ls 1), .int .i64 (gi ls 2), .int .i64 (gi ls 3), .int .i64 (gi ls 4), .int .i64 (gi ls 5), .int .i64 (gi ls 6), .int .i64 (gi ls 7)]) ∧ Below w'.heap.size w' w'')) := Lib.hid (fun w' hr => by
    have := levelSeats_any la lm ld l w' hr hlm (LV7 h6 hl)
    rw [hls, arr8 hsl]
    exact this)
  have HTH : Hid (∀ w', Calls Try.prog 65 #[.agg #[.int .i64 (gi ls 0), .int .i64 (gi ls 1), .int .i64 (gi ls 2), .int .i64 (gi ls 3), .int .i64 (gi ls 4), .int .i64 (gi ls 5), .int .i64 (gi ls 6), .int .i64 (gi ls 7)], .agg #[.int .i64 (gi ss 0), .int .i64 (gi ss 1), .int .i64 (gi ss 2), .int .i64 (gi ss 3), .int .i64 (gi ss 4), .int .i64 (gi ss 5), .int .i64 (gi ss 6), .int .i64 (gi ss 7)]] w' (fun e w'' => e = .returned (.agg #[.int .i64 (gi xs 0), .int .i64 (gi xs 1), .int .i64 (gi xs 2), .int .i64 (gi xs 3), .int .i64 (gi xs 4), .int .i64 (gi xs 5), .int .i64 (gi xs 6), .int .i64 (gi xs 7)]) ∧ Below w'.heap.size w' w'')) := Lib.hid (fun w' => by
    have := then_any (sl8 l) (seats p) w' hin hi8.1
    rw [hX] at this
    rw [hls, hss, hxs, arr8 hsl, arr8 hi8.1, arr8 hx8.1]
    exact this)
  have HLR : Hid (∀ w', Below w.heap.size w w' → RI w' la lm l) := Lib.hid (fun w' hb' => hr.below hb' (Nat.le_refl _))
  have hsl8 : ss.length = 8 := by rw [hss]; exact hi8.1
  have HQC : Hid (∀ w', Below w.heap.size w w' → w'.cell? ⟨b4, 0, none⟩ = some (.map (some bm)) ∧ w'.cell? ⟨b7, 0, none⟩ = some (.int .i64 (gi ss 0)) ∧ w'.cell? ⟨b7, 1, none⟩ = some (.int .i64 (gi ss 1)) ∧ w'.cell? ⟨b7, 2, none⟩ = some (.int .i64 (gi ss 2)) ∧ w'.cell? ⟨b7, 3, none⟩ = some (.int .i64 (gi ss 3)) ∧ w'.cell? ⟨b7, 4, none⟩ = some (.int .i64 (gi ss 4)) ∧ w'.cell? ⟨b7, 5, none⟩ = some (.int .i64 (gi ss 5)) ∧ w'.cell? ⟨b7, 6, none⟩ = some (.int .i64 (gi ss 6)) ∧ w'.cell? ⟨b7, 7, none⟩ = some (.int .i64 (gi ss 7))) := Lib.hid (fun w' hb' => ⟨(hb'.cell (p := ⟨b4, 0, none⟩) HH4.out).trans HC4.out, cells8 hsl8 ((hb'.block b7 HH7.out).trans HC7.out)⟩)
  have HOX : Hid (∀ w', Below w.heap.size w w' → OS w' bm nb D) := Lib.hid (fun w' hb' => HOS.out.kept (grown_of_below hb' none) (by simp))
  have o0 : OS w bm nb D := HOS.out
  have o0d : OS w.drew bm nb D := HOS.out
  rw [← hxs] at HLK1
  rw [← hss] at HLK2
  obtain ⟨v1, hv1⟩ : ∃ v, v = dep n (top p l) := ⟨_, rfl⟩
  obtain ⟨v2, hv2⟩ : ∃ v, v = dep n p := ⟨_, rfl⟩
  rw [← hv1] at HLK1
  rw [← hv2] at HLK2
  rw [← hv1, ← hv2]
  clear h hr hl hok hX hxo hall hi8 hx8 hsl hin hss hls hxs hv1 hv2 hsl8
  go_enter Try.func63, Try.ntmps63
  go_wp2
  go_region_held3 (fun w' => w'.cell? ⟨b4, 0, none⟩ = some (.map (some bm)) ∧ w'.cell? ⟨b7, 0, none⟩ = some (.int .i64 (gi ss 0)) ∧ w'.cell? ⟨b7, 1, none⟩ = some (.int .i64 (gi ss 1)) ∧ w'.cell? ⟨b7, 2, none⟩ = some (.int .i64 (gi ss 2)) ∧ w'.cell? ⟨b7, 3, none⟩ = some (.int .i64 (gi ss 3)) ∧ w'.cell? ⟨b7, 4, none⟩ = some (.int .i64 (gi ss 4)) ∧ w'.cell? ⟨b7, 5, none⟩ = some (.int .i64 (gi ss 5)) ∧ w'.cell? ⟨b7, 6, none⟩ = some (.int .i64 (gi ss 6)) ∧ w'.cell? ⟨b7, 7, none⟩ = some (.int .i64 (gi ss 7)))
    (exact HQC.out _ (by with_reducible first | exact hidOut (b5) | exact hidOut (b6) | exact hidOut ((belRefl (w := w))) | exact hidOut (belAlloc (b5) _) | exact hidOut (belDrew (b5)) | exact hidOut (belAlloc (b6) _) | exact hidOut (belDrew (b6)) | exact hidOut (belAlloc ((belRefl (w := w))) _) | exact hidOut (belDrew ((belRefl (w := w)))) | exact hidOut (belAlloc (belAlloc (b5) _) _) | exact hidOut (belDrew (belAlloc (b5) _)) | exact hidOut (belAlloc (belDrew (b5)) _) | exact hidOut (belDrew (belDrew (b5))) | exact hidOut (belAlloc (belAlloc (b6) _) _) | exact hidOut (belDrew (belAlloc (b6) _)) | exact hidOut (belAlloc (belDrew (b6)) _) | exact hidOut (belDrew (belDrew (b6))) | exact hidOut (belAlloc (belAlloc ((belRefl (w := w))) _) _) | exact hidOut (belDrew (belAlloc ((belRefl (w := w))) _)) | exact hidOut (belAlloc (belDrew ((belRefl (w := w)))) _) | exact hidOut (belDrew (belDrew ((belRefl (w := w)))))))
    (first
      | (go_at_call 64; refine (HLS.out _ (HLR.out _ (by with_reducible first | exact hidOut ((belRefl (w := w))) | exact hidOut (belAlloc ((belRefl (w := w))) _) | exact hidOut (belDrew ((belRefl (w := w)))) | exact hidOut (belAlloc (belAlloc ((belRefl (w := w))) _) _) | exact hidOut (belDrew (belAlloc ((belRefl (w := w))) _)) | exact hidOut (belAlloc (belDrew ((belRefl (w := w)))) _) | exact hidOut (belDrew (belDrew ((belRefl (w := w)))))))).mono ?_; rintro e w5 ⟨rfl, hb5⟩; have b5 : Hid (Below w.heap.size w w5) := belStep (by with_reducible first | exact ((belRefl (w := w))) | exact (belAlloc ((belRefl (w := w))) _) | exact (belDrew ((belRefl (w := w)))) | exact (belAlloc (belAlloc ((belRefl (w := w))) _) _) | exact (belDrew (belAlloc ((belRefl (w := w))) _)) | exact (belAlloc (belDrew ((belRefl (w := w)))) _) | exact (belDrew (belDrew ((belRefl (w := w)))))) hb5; have o5 : OS w5 bm nb D := HOX.out _ b5.out; have o5d : OS w5.drew bm nb D := o5; clear hb5)
      | (go_at_call 65; refine (HTH.out _).mono ?_; rintro e w6 ⟨rfl, hb6⟩; have b6 : Hid (Below w.heap.size w w6) := belStep (by with_reducible first | exact (b5) | exact (belAlloc (b5) _) | exact (belDrew (b5)) | exact (belAlloc (belAlloc (b5) _) _) | exact (belDrew (belAlloc (b5) _)) | exact (belAlloc (belDrew (b5)) _) | exact (belDrew (belDrew (b5)))) hb6; have o6 : OS w6 bm nb D := HOX.out _ b6.out; have o6d : OS w6.drew bm nb D := o6; clear hb6))
  all_goals
    go_wp2
    go_ret
    exact ⟨by simp, by first | exact b6.out | exact b6.out.drew⟩
end Go.Proofs.Ytnhhbpogjhcibaa
