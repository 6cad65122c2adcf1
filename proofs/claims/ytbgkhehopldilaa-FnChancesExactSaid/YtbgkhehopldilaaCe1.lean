/- Sums over all ladders of so many rungs; where wires lead. Nothing of the program is said here. -/
import Derived.Test.YtbgkhehopldilaaMgA
namespace Go.Proofs.Ytbgkhehopldilaa
open Go

/-- one rung more, on each of m places -/
def up {α : Type} (ov : α → Int → α) (m : Nat) (f : α → Nat) : α → Nat := fun e => ((List.range m).map fun (r : Nat) => f (ov e (r : Int))).sum
/-- k rungs more -/
def ups {α : Type} (ov : α → Int → α) (m : Nat) : Nat → (α → Nat) → α → Nat
  | 0, f => f
  | k + 1, f => ups ov m k (up ov m f)

theorem ssum_congr {β : Type} {l : List β} {f g : β → Nat} (h : ∀ x ∈ l, f x = g x) : (l.map f).sum = (l.map g).sum := by rw [List.map_congr_left h]
theorem ssum_le {β : Type} (f g : β → Nat) : ∀ (l : List β), (∀ x ∈ l, f x ≤ g x) → (l.map f).sum ≤ (l.map g).sum
  | [], _ => Nat.le_refl _
  | x :: r, h => by
    have h1 := h x (by simp)
    have h2 := ssum_le f g r (fun y hy => h y (by simp [hy]))
    simp only [List.map_cons, List.sum_cons]; omega
theorem ssum_add {β : Type} (f g : β → Nat) : ∀ (l : List β), (l.map fun x => f x + g x).sum = (l.map f).sum + (l.map g).sum
  | [] => rfl
  | x :: r => by simp only [List.map_cons, List.sum_cons, ssum_add f g r]; omega
theorem ssum_mul {β : Type} (c : Nat) (f : β → Nat) : ∀ (l : List β), (l.map fun x => c * f x).sum = c * (l.map f).sum
  | [] => by simp
  | x :: r => by simp only [List.map_cons, List.sum_cons, ssum_mul c f r, Nat.mul_add]
theorem ssum_const {β : Type} (c : Nat) : ∀ (l : List β), (l.map fun _ => c).sum = l.length * c
  | [] => by simp
  | x :: r => by simp only [List.map_cons, List.sum_cons, ssum_const c r, List.length_cons, Nat.add_mul]; omega
theorem ssum_swap {β γ : Type} (f : β → γ → Nat) (l : List β) : ∀ (m : List γ), (l.map fun x => (m.map fun y => f x y).sum).sum = (m.map fun y => (l.map fun x => f x y).sum).sum
  | [] => by rw [show (fun x : β => (([] : List γ).map fun y => f x y).sum) = fun _ => 0 from rfl, ssum_const]; simp
  | y :: r => by
    simp only [List.map_cons, List.sum_cons]
    rw [ssum_add, ssum_swap f l r]

section
variable {α : Type} {ov : α → Int → α} {m : Nat}
theorem up_congr {f g : α → Nat} (h : ∀ x, f x = g x) : up ov m f = up ov m g := by rw [show f = g from funext h]
theorem ups_succ (k : Nat) : ∀ (f : α → Nat), ups ov m (k + 1) f = up ov m (ups ov m k f) := by
  induction k with
  | zero => intro f; rfl
  | succ k ih => intro f; show ups ov m (k + 1) (up ov m f) = _; rw [ih (up ov m f)]; rfl
theorem up_add (f g : α → Nat) : up ov m (fun x => f x + g x) = fun x => up ov m f x + up ov m g x := by
  funext x; exact ssum_add _ _ _
theorem up_mul (c : Nat) (f : α → Nat) : up ov m (fun x => c * f x) = fun x => c * up ov m f x := by
  funext x; exact ssum_mul _ _ _
theorem up_const (c : Nat) : up ov m (fun _ => c) = fun _ => m * c := by
  funext x; unfold up; rw [ssum_const]; simp
theorem up_le {f g : α → Nat} (h : ∀ x, f x ≤ g x) (x : α) : up ov m f x ≤ up ov m g x := ssum_le _ _ _ (fun _ _ => h _)
theorem ups_add (k : Nat) : ∀ (f g : α → Nat), ups ov m k (fun x => f x + g x) = fun x => ups ov m k f x + ups ov m k g x := by
  induction k with
  | zero => intro f g; rfl
  | succ k ih => intro f g; show ups ov m k (up ov m _) = _; rw [up_add, ih]; rfl
theorem ups_mul (c k : Nat) : ∀ (f : α → Nat), ups ov m k (fun x => c * f x) = fun x => c * ups ov m k f x := by
  induction k with
  | zero => intro f; rfl
  | succ k ih => intro f; show ups ov m k (up ov m _) = _; rw [up_mul, ih]; rfl
theorem ups_const (k : Nat) : ∀ (c : Nat), ups ov m k (fun _ => c) = fun _ => m ^ k * c := by
  induction k with
  | zero => intro c; funext x; simp [ups]
  | succ k ih => intro c; show ups ov m k (up ov m _) = _; rw [up_const, ih]; funext x; rw [Nat.pow_succ, Nat.mul_assoc]
theorem ups_le (k : Nat) : ∀ {f g : α → Nat}, (∀ x, f x ≤ g x) → ∀ x, ups ov m k f x ≤ ups ov m k g x := by
  induction k with
  | zero => intro f g h x; exact h x
  | succ k ih => intro f g h x; exact ih (fun y => up_le h y) x
theorem ups_le_const (k c : Nat) {f : α → Nat} (h : ∀ x, f x ≤ c) (x : α) : ups ov m k f x ≤ m ^ k * c := by
  have := ups_le (ov := ov) (m := m) k (g := fun _ => c) h x
  rw [ups_const] at this
  exact this
/-- The same steps seen through φ. -/
theorem ups_through {β : Type} {ob : β → Int → β} {φ : β → α} {S : β → Prop} (hs : ∀ b (r : Nat), S b → r < m → S (ob b (r : Int)) ∧ ov (φ b) (r : Int) = φ (ob b (r : Int))) (f : α → Nat) :
    ∀ (k : Nat) (b : β), S b → ups ov m k f (φ b) = ups ob m k (fun x => f (φ x)) b := by
  intro k
  induction k with
  | zero => intro b _; rfl
  | succ k ih =>
    intro b hb
    rw [ups_succ, ups_succ]
    exact ssum_congr fun r hr => by rw [(hs b r hb (List.mem_range.1 hr)).2]; exact ih _ (hs b r hb (List.mem_range.1 hr)).1
/-- What need hold on a closed set alone. -/
theorem ups_on {S : α → Prop} (hs : ∀ b (r : Nat), S b → r < m → S (ov b (r : Int))) {f g : α → Nat} (h : ∀ x, S x → f x = g x) :
    ∀ (k : Nat) (b : α), S b → ups ov m k f b = ups ov m k g b := by
  intro k
  induction k with
  | zero => intro b hb; exact h b hb
  | succ k ih =>
    intro b hb
    rw [ups_succ, ups_succ]
    exact ssum_congr fun r hr => ih _ (hs b r hb (List.mem_range.1 hr))
end

theorem up_zero {α : Type} (ov : α → Int → α) (f : α → Nat) (x : α) : up ov 0 f x = 0 := rfl
theorem up_succ {α : Type} (ov : α → Int → α) (r : Nat) (f : α → Nat) (x : α) : up ov (r + 1) f x = up ov r f x + f (ov x (r : Int)) := by
  unfold up; rw [List.range_succ, List.map_append, List.sum_append]; simp
/-- where one is behind a rung -/
def ovW (x r : Int) : Int := if x = r then x + 1 else if x = r + 1 then x - 1 else x
/-- where six are -/
def ovE (e : List Int) (r : Int) : List Int := e.map fun x => ovW x r
theorem ovE_length (e : List Int) (r : Int) : (ovE e r).length = e.length := by simp [ovE]
theorem gi_ovE (e : List Int) (r : Int) {j : Nat} (h : j < e.length) : gi (ovE e r) j = ovW (gi e j) r := by
  rw [gi_lt (by rw [ovE_length]; exact h), gi_lt h]; simp [ovE]
/-- the ends of some, nobody behind them -/
def endsL (ws : List Int) : List Int := (ws ++ List.replicate 6 (-1)).take 6
theorem endsL_length (ws : List Int) : (endsL ws).length = 6 := by simp [endsL]
theorem gi_endsL {ws : List Int} {j : Nat} (hj : j < 6) : gi (endsL ws) j = if j < ws.length then gi ws j else -1 := by
  rw [gi_lt (by rw [endsL_length]; exact hj)]
  simp only [endsL, List.getElem_take]
  by_cases h : j < ws.length
  · rw [List.getElem_append_left h, if_pos h, gi_lt h]
  · rw [List.getElem_append_right (by omega), if_neg h]
    exact List.getElem_replicate _
theorem ovW_none {r : Int} (h : 0 ≤ r) : ovW (-1) r = -1 := by unfold ovW; rw [if_neg (by omega), if_neg (by omega)]
theorem ovE_endsL (ws : List Int) (r : Nat) : ovE (endsL ws) (r : Int) = endsL (ws.map fun x => ovW x (r : Int)) := by
  refine gi_ext (by rw [ovE_length, endsL_length, endsL_length]) (fun j hj => ?_)
  rw [ovE_length, endsL_length] at hj
  rw [gi_ovE _ _ (by rw [endsL_length]; exact hj), gi_endsL hj, gi_endsL hj, List.length_map]
  by_cases h : j < ws.length
  · rw [if_pos h, if_pos h, gi_lt h, gi_lt (by rw [List.length_map]; exact h)]; simp
  · rw [if_neg h, if_neg h, ovW_none (by omega)]
/-- Six numbers, each a wire's or nobody's. -/
def OKE (n : Nat) (e : List Int) : Prop := e.length = 6 ∧ ∀ x ∈ e, -1 ≤ x ∧ x < n
theorem ovW_in {n : Nat} {x : Int} {r : Nat} (hx : -1 ≤ x ∧ x < n) (hr : r + 1 < n) : -1 ≤ ovW x (r : Int) ∧ ovW x (r : Int) < n := by
  unfold ovW
  split
  · omega
  · split
    · omega
    · exact hx
theorem ovW_in0 {n : Nat} {x : Int} {r : Nat} (hx : 0 ≤ x ∧ x < n) (hr : r + 1 < n) : 0 ≤ ovW x (r : Int) ∧ ovW x (r : Int) < n := by
  unfold ovW
  split
  · omega
  · split
    · omega
    · exact hx
theorem OKE.over {n : Nat} {e : List Int} (h : OKE n e) {r : Nat} (hr : r + 1 < n) : OKE n (ovE e (r : Int)) := by
  refine ⟨by rw [ovE_length]; exact h.1, fun x hx => ?_⟩
  unfold ovE at hx
  obtain ⟨y, hy, rfl⟩ := List.mem_map.1 hx
  exact ovW_in (h.2 y hy) hr
theorem OKE.at {n : Nat} {e : List Int} (h : OKE n e) {j : Nat} (hj : j < 6) : -1 ≤ gi e j ∧ gi e j < n := by
  have hl : j < e.length := by rw [h.1]; exact hj
  exact h.2 _ (by rw [gi_lt hl]; exact List.getElem_mem hl)
theorem OKE.ends {n : Nat} {ws : List Int} (h : ∀ x ∈ ws, 0 ≤ x ∧ x < n) (hn : 0 < n) : OKE n (endsL ws) := by
  refine ⟨endsL_length ws, fun x hx => ?_⟩
  have hx := List.mem_of_mem_take hx
  rcases List.mem_append.1 hx with hx | hx
  · have := h x hx; omega
  · have := (List.mem_replicate.1 hx).2; omega
end Go.Proofs.Ytbgkhehopldilaa
