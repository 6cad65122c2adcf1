/- All orders are looked at, a level at a time: what is known on the way, and in the end. -/
import Derived.Test.YtnhhbpogjhcibaaLd0
namespace Go.Proofs.Ytnhhbpogjhcibaa
open Go Go.RowKit

def upd (d : List Int → Nat) (x : List Int) (v : Nat) : List Int → Nat := fun q => if q = x then v else d q
theorem upd_same (d : List Int → Nat) (x : List Int) (v : Nat) : upd d x v x = v := by unfold upd; rw [if_pos rfl]
theorem upd_other {d : List Int → Nat} {x q : List Int} {v : Nat} (h : q ≠ x) : upd d x v q = d q := by unfold upd; rw [if_neg h]
theorem gz_left {a b : List (List Int)} {i : Nat} (h : i < a.length) : gz (a ++ b) i = gz a i := by
  simp [gz, List.getD, List.getElem?_append_left h]
theorem gz_last (a : List (List Int)) (x : List Int) : gz (a ++ [x]) a.length = x := by simp [gz, List.getD]
/-- a step keeps to orders and makes one level more -/
def Steps (n : Nat) (nx : List Int → List Int → List Int) : Prop := ∀ m p l, Rk n m p → l ∈ LV n → Rk n (m + 1) (nx p l)
structure Bfs (n : Nat) (nx : List Int → List Int → List Int) (Q : List (List Int)) (d : List Int → Nat) (k j : Nat) : Prop where
  nd : Q.Nodup
  first : 0 < Q.length ∧ gz Q 0 = upto n
  home0 : d (upto n) = 0
  sound : ∀ q ∈ Q, Rk n (d q) q
  mono : ∀ i i', i ≤ i' → i' < Q.length → d (gz Q i) ≤ d (gz Q i')
  near : ∀ i, i < Q.length → k < Q.length → d (gz Q i) ≤ d (gz Q k) + 1
  done : ∀ i, i < k → ∀ l ∈ LV n, nx (gz Q i) l ∈ Q ∧ d (nx (gz Q i) l) ≤ d (gz Q i) + 1
  part : k < Q.length → ∀ i, i < j → nx (gz Q k) (gz (LV n) i) ∈ Q ∧ d (nx (gz Q k) (gz (LV n) i)) ≤ d (gz Q k) + 1
  kle : k ≤ Q.length
  lt : ∀ q ∈ Q, d q < Q.length
section
variable {n : Nat} {nx : List Int → List Int → List Int} {Q : List (List Int)} {d : List Int → Nat} {k j : Nat}
theorem Bfs.start (n : Nat) (nx : List Int → List Int → List Int) (d : List Int → Nat) (hd : d (upto n) = 0) : Bfs n nx [upto n] d 0 0 :=
  ⟨by simp, ⟨by simp, by simp [gz]⟩, hd, fun q hq => by rw [List.mem_singleton.1 hq, hd]; exact Rk.home n, fun i i' h1 h2 => by
    have h3 : i' = 0 := by simpa using h2
    have h4 : i = 0 := by omega
    rw [h3, h4]; exact Nat.le_refl _, fun i h1 _ => by
    have h3 : i = 0 := by simpa using h1
    rw [h3]; omega, fun i h => absurd h (by omega), fun _ i h => absurd h (by omega), Nat.zero_le _, fun q hq => by rw [List.mem_singleton.1 hq, hd]; simp⟩
theorem Bfs.at (h : Bfs n nx Q d k j) (hk : k < Q.length) : Rk n (d (gz Q k)) (gz Q k) := h.sound _ (mem_gz.2 ⟨k, hk, rfl⟩)
theorem Bfs.known (h : Bfs n nx Q d k j) (hk : k < Q.length) (hin : nx (gz Q k) (gz (LV n) j) ∈ Q) : Bfs n nx Q d k (j + 1) := by
  refine ⟨h.nd, h.first, h.home0, h.sound, h.mono, h.near, h.done, fun _ i hi => ?_, h.kle, h.lt⟩
  by_cases e : i = j
  · subst e
    refine ⟨hin, ?_⟩
    obtain ⟨i', h1, h2⟩ := mem_gz.1 hin
    rw [h2]
    exact h.near i' h1 hk
  · exact h.part hk i (by omega)
theorem Bfs.new (hs : Steps n nx) (h : Bfs n nx Q d k j) (hk : k < Q.length) (hj : j < (LV n).length) (hin : nx (gz Q k) (gz (LV n) j) ∉ Q) :
    Bfs n nx (Q ++ [nx (gz Q k) (gz (LV n) j)]) (upd d (nx (gz Q k) (gz (LV n) j)) (d (gz Q k) + 1)) k (j + 1) := by
  obtain ⟨x, hx⟩ : ∃ x, x = nx (gz Q k) (gz (LV n) j) := ⟨_, rfl⟩
  rw [← hx] at hin ⊢
  have hne : ∀ q ∈ Q, q ≠ x := fun q hq e => hin (e ▸ hq)
  have hg : ∀ i, i < Q.length → gz Q i ∈ Q := fun i hi => mem_gz.2 ⟨i, hi, rfl⟩
  have hd : ∀ q ∈ Q, upd d x (d (gz Q k) + 1) q = d q := fun q hq => upd_other (hne q hq)
  have hl : (Q ++ [x]).length = Q.length + 1 := by simp
  refine ⟨?_, ⟨by simp, by rw [gz_left h.first.1, h.first.2]⟩, ?_, fun q hq => ?_, fun i i' h1 h2 => ?_, fun i h1 _ => ?_, fun i h1 l hl2 => ?_, fun _ i h1 => ?_, by rw [hl]; omega, fun q hq => ?_⟩
  · rw [List.nodup_append]
    exact ⟨h.nd, by simp, fun a ha b hb => by rw [List.mem_singleton.1 hb]; exact hne a ha⟩
  · rw [hd _ (by rw [← h.first.2]; exact hg 0 h.first.1)]; exact h.home0
  · rcases List.mem_append.1 hq with hq | hq
    · rw [hd q hq]; exact h.sound q hq
    · rw [List.mem_singleton.1 hq, upd_same, hx]
      exact hs _ _ _ (h.at hk) (mem_gz.2 ⟨j, hj, rfl⟩)
  · rw [hl] at h2
    by_cases e : i' = Q.length
    · subst e
      rw [gz_last, upd_same]
      by_cases e2 : i = Q.length
      · subst e2; rw [gz_last, upd_same]; exact Nat.le_refl _
      · rw [gz_left (by omega), hd _ (hg i (by omega))]
        exact h.near i (by omega) hk
    · rw [gz_left (by omega), gz_left (by omega), hd _ (hg i (by omega)), hd _ (hg i' (by omega))]
      exact h.mono i i' h1 (by omega)
  · rw [hl] at h1
    rw [gz_left hk, hd _ (hg k hk)]
    by_cases e : i = Q.length
    · subst e
      rw [gz_last, upd_same]; exact Nat.le_refl _
    · rw [gz_left (by omega), hd _ (hg i (by omega))]
      exact h.near i (by omega) hk
  · have hi : i < Q.length := by omega
    obtain ⟨h3, h4⟩ := h.done i h1 l hl2
    rw [gz_left hi, hd _ (hg i hi), hd _ h3]
    exact ⟨by simp [h3], h4⟩
  · rw [gz_left hk, hd _ (hg k hk)]
    by_cases e : i = j
    · subst e
      rw [← hx, upd_same]
      exact ⟨by simp, Nat.le_refl _⟩
    · obtain ⟨h3, h4⟩ := h.part hk i (by omega)
      rw [hd _ h3]
      exact ⟨by simp [h3], h4⟩
  · rw [hl]
    rcases List.mem_append.1 hq with hq | hq
    · rw [hd q hq]; have := h.lt q hq; omega
    · rw [List.mem_singleton.1 hq, upd_same]; have := h.lt _ (hg k hk); omega
theorem Bfs.next (h : Bfs n nx Q d k j) (hk : k < Q.length) (hj : (LV n).length ≤ j) : Bfs n nx Q d (k + 1) 0 := by
  refine ⟨h.nd, h.first, h.home0, h.sound, h.mono, fun i h1 h2 => ?_, fun i h1 l hl => ?_, fun _ i h1 => absurd h1 (by omega), hk, h.lt⟩
  · have h3 := h.near i h1 hk
    have h4 := h.mono k (k + 1) (by omega) h2
    omega
  · by_cases e : i = k
    · subst e
      obtain ⟨i', h3, rfl⟩ := mem_gz.1 hl
      exact h.part hk i' (by omega)
    · exact h.done i (by omega) l hl
/-- all orders that levels make are reached by such steps -/
def Walks (n : Nat) (nx : List Int → List Int → List Int) : Prop := ∀ (P : List Int → Nat → Prop), P (upto n) 0 → (∀ p m l, P p m → l ∈ LV n → P (nx p l) (m + 1)) → ∀ m p, Rk n m p → P p m
theorem walks_top (n : Nat) : Walks n Go.Proofs.Ytnhhbpogjhcibaa.top := by
  intro P h0 hs m
  induction m with
  | zero => intro p hp; rw [hp.zero]; exact h0
  | succ m ih =>
    rintro p ⟨ws, g1, g2, g3⟩
    rcases List.eq_nil_or_concat ws with e | ⟨ws', l, e⟩
    · rw [e] at g1; simp at g1
    · subst e
      rw [g3, List.concat_eq_append, pr_snoc]
      exact hs _ _ _ (ih _ ⟨ws', by simpa using g1, fun x hx => g2 x (by simp [hx]), rfl⟩) (g2 l (by simp))
theorem walks_bot (n : Nat) : Walks n (Go.Proofs.Ytnhhbpogjhcibaa.bot n) := by
  intro P h0 hs m
  induction m with
  | zero => intro p hp; rw [hp.zero]; exact h0
  | succ m ih =>
    rintro p ⟨ws, g1, g2, g3⟩
    rcases ws with _ | ⟨l, ws⟩
    · simp at g1
    · rw [g3, pr_cons (fun x hx => g2 x (by simp [hx]))]
      exact hs _ _ _ (ih _ ⟨ws, by simpa using g1, fun x hx => g2 x (by simp [hx]), rfl⟩) (g2 l (by simp))
theorem Bfs.fin (hw : Walks n nx) (h2 : 2 ≤ n) (h6 : n ≤ 6) (h : Bfs n nx Q d Q.length 0) {p : List Int} (hp : OKp n p) : p ∈ Q ∧ d p = dep n p := by
  have key : ∀ m p, Rk n m p → p ∈ Q ∧ d p ≤ m := by
    refine hw (fun p m => p ∈ Q ∧ d p ≤ m) ⟨?_, by rw [h.home0]; exact Nat.le_refl _⟩ (fun p m l hp hl => ?_)
    · rw [← h.first.2]; exact mem_gz.2 ⟨0, h.first.1, rfl⟩
    · obtain ⟨i, hi, rfl⟩ := mem_gz.1 hp.1
      obtain ⟨h3, h4⟩ := h.done i hi l hl
      exact ⟨h3, by have := hp.2; omega⟩
  obtain ⟨m, hm⟩ := Rk.all h2 h6 _ p hp (Nat.lt_succ_self _)
  have hq := (key m p hm).1
  exact ⟨hq, dep_is (h.sound p hq) (fun k hk => (key k p hk).2)⟩
theorem nodup_le : ∀ (Q L : List (List Int)), Q.Nodup → (∀ q ∈ Q, q ∈ L) → Q.length ≤ L.length
  | [], L, _, _ => Nat.zero_le _
  | x :: Q, L, hn, h => by
    rw [List.nodup_cons] at hn
    have hx : x ∈ L := h x (by simp)
    have h1 := nodup_le Q (L.erase x) hn.2 (fun q hq => (List.mem_erase_of_ne (by rintro rfl; exact hn.1 hq)).2 (h q (by simp [hq])))
    have h3 := List.length_erase_of_mem hx
    have h4 := List.length_pos_of_mem hx
    simp only [List.length_cons]
    omega
theorem Bfs.ok (h2 : 2 ≤ n) (h6 : n ≤ 6) (h : Bfs n nx Q d k j) : ∀ q ∈ Q, OKp n q := fun q hq => (h.sound q hq).ok (by omega) (by omega)
theorem Bfs.small (h2 : 2 ≤ n) (h6 : n ≤ 6) (h : Bfs n nx Q d k j) : Q.length ≤ 46656 :=
  Nat.le_trans (nodup_le Q (ordsK n n) h.nd (fun q hq => ((ordsK_all (by omega) (by omega)).mem q).2 (h.ok h2 h6 q hq))) (ordsK_small h6 h6)
end
theorem steps_top (n : Nat) : Steps n Go.Proofs.Ytnhhbpogjhcibaa.top := fun _ _ _ h hl => h.top hl
theorem steps_bot (n : Nat) : Steps n (Go.Proofs.Ytnhhbpogjhcibaa.bot n) := fun _ _ _ h hl => h.bot hl
end Go.Proofs.Ytnhhbpogjhcibaa
