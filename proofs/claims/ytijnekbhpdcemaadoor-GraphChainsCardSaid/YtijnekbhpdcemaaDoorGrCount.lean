/- Components by Tarjan's way: how many nodes are left; how long the way may yet be. -/
import Derived.Test.YtijnekbhpdcemaaDoorGrTarjan2
namespace Go.Proofs.YtijnekbhpdcemaaDoor
open Go.RowKit
set_option linter.unusedVariables false
set_option linter.unusedSimpArgs false

/-- a least number, for a loop whose rounds are counted by what the slots don't hold -/
theorem exists_least {p : Nat → Prop} (h : ∃ m, p m) : ∃ m, p m ∧ ∀ k, p k → m ≤ k := by
  obtain ⟨m, hm⟩ := h
  induction m using Nat.strongRecOn with
  | _ m ih =>
    by_cases e : ∃ k, k < m ∧ p k
    · obtain ⟨k, hk, hp⟩ := e; exact ih k hk hp
    · exact ⟨m, hm, fun k hk => Nat.le_of_not_lt (fun h => e ⟨k, h, hk⟩)⟩
theorem exists_measure {α : Type} (R : Nat → α → Prop) : ∃ μ : α → Nat, ∀ a, (∃ m, R m a) → R (μ a) a ∧ ∀ m, R m a → μ a ≤ m := by
  have h : ∀ a, ∃ m, (∃ k, R k a) → R m a ∧ ∀ k, R k a → m ≤ k := fun a => by
    by_cases e : ∃ k, R k a
    · obtain ⟨m, h1, h2⟩ := exists_least e
      exact ⟨m, fun _ => ⟨h1, h2⟩⟩
    · exact ⟨0, fun h => absurd h e⟩
  exact ⟨fun a => Classical.choose (h a), fun a => Classical.choose_spec (h a)⟩

/-- a sum over the numbers below n that are marked by f = 0 -/
def left (f : Int → Int) (g : Nat → Nat) : Nat → Nat
  | 0 => 0
  | n + 1 => left f g n + if f n = 0 then g n else 0
theorem left_upd {f : Int → Int} {g : Nat → Nat} {x : Int} {r : Nat} (hx : x ≠ 0) : ∀ n, (r < n → f r = 0 → left f g n = left (upd f r x) g n + g r) ∧ (n ≤ r → left (upd f r x) g n = left f g n)
  | 0 => ⟨fun h => absurd h (Nat.not_lt_zero _), fun _ => rfl⟩
  | n + 1 => by
    obtain ⟨h1, h2⟩ := left_upd (f := f) (g := g) (r := r) hx n
    refine ⟨fun hr h0 => ?_, fun hr => ?_⟩
    · unfold left
      by_cases e : r = n
      · subst e
        rw [h2 (Nat.le_refl _), if_pos h0, upd_at, if_neg hx]; omega
      · rw [h1 (by omega) h0, upd_ne _ _ (by omega)]; omega
    · unfold left
      rw [h2 (by omega), upd_ne _ _ (by omega)]

/-- the numbers that bound what the walker holds -/
structure Cnt (n : Nat) (s : TS) (k : Nat) : Prop where
  all : s.met + left s.ord (fun _ => 1) n = n
  held : s.opn.length + s.cps.length ≤ s.met
  way : k ≤ s.met
theorem Cnt.start (n : Nat) : Cnt n TS.start 0 := by
  have h : ∀ n, left (fun _ => 0) (fun _ => 1) n = n := fun n => by
    induction n with
    | zero => rfl
    | succ n ih => unfold left; rw [ih]; simp
  exact ⟨by show 0 + left (fun _ => 0) _ n = n; rw [h]; omega, by simp [TS.start], Nat.zero_le _⟩
theorem Cnt.room {n : Nat} {s : TS} {k r : Nat} (h : Cnt n s k) (hr : r < n) (h0 : s.ord r = 0) : s.met + 1 ≤ n := by
  have := (left_upd (f := s.ord) (g := fun _ => 1) (x := 1) (r := r) (by omega) n).1 hr h0
  have := h.all
  omega
theorem Cnt.enter {n : Nat} {s : TS} {k r : Nat} (h : Cnt n s k) (hr : r < n) (h0 : s.ord r = 0) : Cnt n (s.enter r) (k + 1) where
  all := by
    have := (left_upd (f := s.ord) (g := fun _ => 1) (x := (s.met : Int) + 1) (r := r) (by omega) n).1 hr h0
    have h1 := h.all
    show s.met + 1 + left (upd s.ord r (s.met + 1)) _ n = n
    omega
  held := by
    show (s.opn ++ [(r : Int)]).length + s.cps.length ≤ s.met + 1
    have := h.held
    simp; omega
  way := by show k + 1 ≤ s.met + 1; have := h.way; omega
theorem Cnt.lower {n : Nat} {s : TS} {k : Nat} (h : Cnt n s k) (i l : Int) : Cnt n (s.lower i l) k := ⟨h.all, h.held, h.way⟩
theorem Cnt.lows {n : Nat} {s : TS} {k : Nat} (h : Cnt n s k) (l : Int → Int) : Cnt n (s.lows l) k := ⟨h.all, h.held, h.way⟩
theorem Cnt.pop {n : Nat} {s : TS} {k : Nat} (h : Cnt n s (k + 1)) : Cnt n s k := ⟨h.all, h.held, by have := h.way; omega⟩
theorem Cnt.close {n : Nat} {s : TS} {k : Nat} {A B : List Int} {i : Int} (h : Cnt n s k) (hs : s.opn = A ++ i :: B) : Cnt n (s.close A (i :: B)) k where
  all := h.all
  held := by
    have := h.held
    rw [hs] at this
    simp only [List.length_append, List.length_cons] at this
    show A.length + (s.cps ++ [i :: B]).length ≤ s.met
    simp; omega
  way := h.way
theorem Cnt.le {n : Nat} {s : TS} {k : Nat} (h : Cnt n s k) : s.met ≤ n ∧ s.opn.length ≤ n ∧ s.cps.length ≤ n ∧ k ≤ n := by
  have := h.all; have := h.held; have := h.way; omega

/-- how many rounds may yet be -/
def wayLeft (L : List (List Int)) : List (Int × Nat) → Nat
  | [] => 0
  | p :: ws => ((L.getD p.1.toNat []).length - p.2) + 1 + wayLeft L ws
theorem wayLeft_cons (L : List (List Int)) (p : Int × Nat) (ws : List (Int × Nat)) : wayLeft L (p :: ws) = ((L.getD p.1.toNat []).length - p.2) + 1 + wayLeft L ws := rfl
def meas (L : List (List Int)) (s : TS) (ws : List (Int × Nat)) : Nat := left s.ord (fun v => (L.getD v []).length + 2) L.length + wayLeft L ws
theorem meas_next {L : List (List Int)} {s s' : TS} {ws : List (Int × Nat)} {i : Int} {k : Nat} (hk : k < (L.getD i.toNat []).length) (ho : s'.ord = s.ord) : meas L s' ((i, k + 1) :: ws) < meas L s ((i, k) :: ws) := by
  unfold meas
  rw [ho, wayLeft_cons, wayLeft_cons]
  simp only
  omega
theorem meas_enter {L : List (List Int)} {s : TS} {ws : List (Int × Nat)} {i : Int} {k j : Nat} (hk : k < (L.getD i.toNat []).length) (hj : j < L.length) (h0 : s.ord j = 0) : meas L (s.enter j) (((j : Int), 0) :: (i, k + 1) :: ws) < meas L s ((i, k) :: ws) := by
  have := (left_upd (f := s.ord) (g := fun v => (L.getD v []).length + 2) (x := (s.met : Int) + 1) (r := j) (by omega) L.length).1 hj h0
  unfold meas
  rw [wayLeft_cons, wayLeft_cons, wayLeft_cons]
  show left (upd s.ord j (s.met + 1)) _ _ + _ < _
  simp only [Int.toNat_natCast] at *
  omega
theorem meas_pop {L : List (List Int)} {s s' : TS} {ws : List (Int × Nat)} {p : Int × Nat} (ho : s'.ord = s.ord) : meas L s' ws < meas L s (p :: ws) := by
  unfold meas
  rw [ho, show wayLeft L (p :: ws) = ((L.getD p.1.toNat []).length - p.2) + 1 + wayLeft L ws from rfl]
  omega

end Go.Proofs.YtijnekbhpdcemaaDoor
