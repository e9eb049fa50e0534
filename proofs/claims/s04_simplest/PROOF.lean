import PyProof.Rows.All
import Wide.All
import OpenK.AllK
import Wide.FinOn
import KE.OsGo
import KE.OsArgs
import PySem.Challenge.RW_quotientrows_s04_simplest
set_option Elab.async false
open PySem PySem.W PyProof.Rows
set_option Elab.async false
namespace Rw
open Kh306
/-- what stands behind a row's first number -/
def okT : Row → Prop
  | [] => True
  | [a] => 2 ≤ a
  | a :: b :: l => 1 ≤ a ∧ okT (b :: l)
theorem okT_nil : okT [] := by simp [okT]
theorem okT_one {a : Int} : okT [a] ↔ 2 ≤ a := by simp [okT]
theorem okT_cons {a b : Int} {l : Row} : okT (a :: b :: l) ↔ 1 ≤ a ∧ okT (b :: l) := by simp [okT]
theorem okT_tail {a : Int} {l : Row} (h : okT (a :: l)) : okT l := by
  cases l with
  | nil => exact okT_nil
  | cons b l => exact (okT_cons.1 h).2
theorem okT_head {a : Int} {l : Row} (h : okT (a :: l)) : 1 ≤ a := by
  cases l with
  | nil => have := okT_one.1 h; omega
  | cons b l => exact (okT_cons.1 h).1
theorem okT_of : ∀ (l : Row), okTail l = true → okT l
  | [], _ => okT_nil
  | [a], h => by
    unfold okTail at h
    simp at h
    exact okT_one.2 h.1
  | a :: b :: l, h => by
    rw [okTail] at h
    · simp at h
      exact okT_cons.2 ⟨h.1, okT_of (b :: l) h.2.2⟩
    · intro h
      cases h
theorem ok_cons {a : Int} {l : Row} : ok (a :: l) = true ↔ -M ≤ a ∧ a ≤ M ∧ okTail l = true ∧ l.length ≤ 95 := by
  unfold ok
  simp
theorem value_one (a : Int) : value [a] = ⟨a, 1⟩ := by rw [value]
theorem value_cons (a b : Int) (l : Row) : value (a :: b :: l) = ⟨a * (value (b :: l)).over + (value (b :: l)).under, (value (b :: l)).over⟩ := by
  rw [value]
  intro h
  cases h
theorem mul_pos' {a b : Int} (ha : 0 < a) (hb : 0 < b) : 0 < a * b := Int.mul_pos ha hb
/-- the value of what stands behind is above 1 -/
theorem tail_big : ∀ (b : Int) (l : Row), okT (b :: l) → 0 < (value (b :: l)).under ∧ (value (b :: l)).under < (value (b :: l)).over
  | b, [], h => by
    rw [value_one]
    have := okT_one.1 h
    show (0 : Int) < 1 ∧ 1 < b
    omega
  | b, c :: l, h => by
    rw [value_cons]
    obtain ⟨h1, h2⟩ := okT_cons.1 h
    obtain ⟨i1, i2⟩ := tail_big c l h2
    show 0 < (value (c :: l)).over ∧ (value (c :: l)).over < b * (value (c :: l)).over + (value (c :: l)).under
    have : 1 * (value (c :: l)).over ≤ b * (value (c :: l)).over := Int.mul_le_mul_of_nonneg_right h1 (by omega)
    omega
theorem under_pos (a : Int) (l : Row) (h : okT l) : 0 < (value (a :: l)).under := by
  cases l with
  | nil =>
    rw [value_one]
    show (0 : Int) < 1
    decide
  | cons b l =>
    rw [value_cons]
    have := tail_big b l h
    show 0 < (value (b :: l)).over
    omega
/-- whole part and rest -/
theorem div_of {a v r : Int} (h0 : 0 ≤ r) (h1 : r < v) : (a * v + r) / v = a ∧ (a * v + r) % v = r := by
  have e : a * v + r = r + v * a := by rw [Int.mul_comm]; omega
  rw [e]
  constructor
  · rw [Int.add_mul_ediv_left _ _ (by omega), Int.ediv_eq_zero_of_lt h0 h1]
    omega
  · rw [Int.add_mul_emod_self_left, Int.emod_eq_of_lt h0 h1]
/-- the row of a row's value is that row -/
theorem ofFrac_value : ∀ (f : Nat) (a : Int) (l : Row), okT l → l.length < f → ofFrac f (value (a :: l)).over (value (a :: l)).under = a :: l
  | 0, _, _, _, h => by omega
  | f + 1, a, [], _, _ => by
    rw [value_one, ofFrac]
    show (if a % 1 = 0 then [a / 1] else _) = _
    rw [if_pos (by omega)]
    simp
  | f + 1, a, b :: l, h, hf => by
    obtain ⟨i1, i2⟩ := tail_big b l h
    rw [value_cons, ofFrac]
    obtain ⟨e1, e2⟩ := div_of (a := a) (Int.le_of_lt i1) i2
    show (if (a * (value (b :: l)).over + (value (b :: l)).under) % (value (b :: l)).over = 0 then _ else _) = _
    dsimp only
    rw [e1, e2, if_neg (by omega), ofFrac_value f b l (okT_tail h) (by simp at hf; omega)]
/-- compare the other way round -/
theorem compare_swap : ∀ (e : Bool) (t u : Row), compare e t u = compare (!e) u t
  | e, [], [] => by cases e <;> rfl
  | e, [], b :: m => by cases e <;> rfl
  | e, a :: l, [] => by cases e <;> rfl
  | e, a :: l, b :: m => by
    rw [Kh306.compare, Kh306.compare]
    by_cases h : a = b
    · subst h
      rw [if_pos rfl, if_pos rfl]
      exact compare_swap _ l m
    · rw [if_neg h, if_neg (Ne.symm h)]
      by_cases h2 : a < b
      · have h3 : ¬ b < a := by omega
        cases e <;> simp [h2, h3]
      · have h3 : b < a := by omega
        cases e <;> simp [h2, h3]
/-- the simplest, by rows: where both rows are above 0 -/
def best : Row → Row → Row
  | [], _ => []
  | _ :: _, [] => []
  | [a], _ :: _ => [a]
  | a :: c :: l, b :: m => if a < b then [a + 1] else a :: best m (c :: l)
termination_by t u => t.length + u.length
theorem best_one (a b : Int) (m : Row) : best [a] (b :: m) = [a] := by rw [best]
theorem best_cons (a c : Int) (l : Row) (b : Int) (m : Row) : best (a :: c :: l) (b :: m) = if a < b then [a + 1] else a :: best m (c :: l) := by rw [best]
theorem ceil_one (a : Int) : -((-a) / 1) = a := by omega
theorem ceil_of {a v r : Int} (h0 : 0 < r) (h1 : r < v) : -((-(a * v + r)) / v) = a + 1 := by
  have e : -(a * v + r) = (-a - 1) * v + (v - r) := by
    rw [Int.sub_mul, Int.neg_mul]
    omega
  rw [e, (div_of (a := -a - 1) (r := v - r) (by omega) (by omega)).1]
  omega
theorem simplestAbove_best : ∀ (f : Nat) (a : Int) (l : Row) (b : Int) (m : Row), okT l → okT m → compare true (a :: l) (b :: m) ≠ 2 → l.length < f → m.length < f →
    simplestAbove f (value (a :: l)) (value (b :: m)) = best (a :: l) (b :: m)
  | 0, _, _, _, _, _, _, _, h, _ => by omega
  | f + 1, a, l, b, m, hl, hm, hc, fl, fm => by
    have hb := under_pos b m hm
    have yb : b * (value (b :: m)).under ≤ (value (b :: m)).over := by
      cases m with
      | nil =>
        rw [value_one]
        show b * 1 ≤ b
        omega
      | cons c m =>
        rw [value_cons]
        have := tail_big c m hm
        show b * (value (c :: m)).over ≤ b * (value (c :: m)).over + (value (c :: m)).under
        omega
    rw [simplestAbove]
    rw [Kh306.compare] at hc
    cases l with
    | nil =>
      rw [value_one]
      dsimp only
      rw [ceil_one]
      have hab : a ≤ b := by
        by_cases h : a = b
        · omega
        · rw [if_neg h] at hc
          by_cases h2 : a < b
          · omega
          · simp [h2] at hc
      have w : a * (value (b :: m)).under ≤ (value (b :: m)).over := by
        have := Int.mul_le_mul_of_nonneg_right hab (Int.le_of_lt hb)
        omega
      rw [if_pos w, best_one]
    | cons c l =>
      obtain ⟨i1, i2⟩ := tail_big c l hl
      rw [value_cons]
      dsimp only
      rw [ceil_of i1 i2, (div_of (a := a) (Int.le_of_lt i1) i2).1]
      by_cases h2 : a < b
      · have w : (a + 1) * (value (b :: m)).under ≤ (value (b :: m)).over := by
          have := Int.mul_le_mul_of_nonneg_right (show a + 1 ≤ b by omega) (Int.le_of_lt hb)
          omega
        rw [if_pos w, best_cons, if_pos h2]
      · have h : a = b := by
          by_cases h : a = b
          · exact h
          · rw [if_neg h] at hc
            simp [h2] at hc
        subst h
        rw [if_pos rfl] at hc
        cases m with
        | nil => simp [Kh306.compare] at hc
        | cons d m =>
          obtain ⟨j1, j2⟩ := tail_big d m hm
          rw [value_cons]
          dsimp only
          have w : ¬ (a + 1) * (value (d :: m)).over ≤ a * (value (d :: m)).over + (value (d :: m)).under := by
            rw [Int.add_mul]
            omega
          rw [if_neg w, best_cons, if_neg h2]
          have e1 : a * (value (d :: m)).over + (value (d :: m)).under - a * (value (d :: m)).over = (value (d :: m)).under := by omega
          have e2 : a * (value (c :: l)).over + (value (c :: l)).under - a * (value (c :: l)).over = (value (c :: l)).under := by omega
          rw [e1, e2]
          have hc' : compare true (d :: m) (c :: l) ≠ 2 := by
            rw [compare_swap]
            exact hc
          have ih := simplestAbove_best f d m c l (okT_tail hm) (okT_tail hl) hc' (by simp at fm; omega) (by simp at fl; omega)
          show a :: simplestAbove f (value (d :: m)) (value (c :: l)) = _
          rw [ih]

/-! order -/
abbrev lt (x y : Frac) : Prop := x.over * y.under < y.over * x.under
def le (x y : Frac) : Prop := x.over * y.under ≤ y.over * x.under
theorem floor_le (b : Int) (m : Row) (hm : okT m) : b * (value (b :: m)).under ≤ (value (b :: m)).over := by
  cases m with
  | nil =>
    rw [value_one]
    show b * 1 ≤ b
    omega
  | cons c m =>
    rw [value_cons]
    have := tail_big c m hm
    show b * (value (c :: m)).over ≤ b * (value (c :: m)).over + (value (c :: m)).under
    omega
theorem lt_floor (a : Int) (l : Row) (hl : okT l) : (value (a :: l)).over < (a + 1) * (value (a :: l)).under := by
  cases l with
  | nil =>
    rw [value_one]
    show a < (a + 1) * 1
    omega
  | cons c l =>
    rw [value_cons]
    have := tail_big c l hl
    show a * (value (c :: l)).over + (value (c :: l)).under < (a + 1) * (value (c :: l)).over
    rw [Int.add_mul]
    omega
theorem lt_of_heads {a b : Int} {l m : Row} (hl : okT l) (hm : okT m) (h : a < b) : lt (value (a :: l)) (value (b :: m)) := by
  have h1 := lt_floor a l hl
  have h2 := floor_le b m hm
  have h3 := under_pos a l hl
  have h4 := under_pos b m hm
  unfold lt
  have k1 : (value (a :: l)).over * (value (b :: m)).under < (a + 1) * (value (a :: l)).under * (value (b :: m)).under := Int.mul_lt_mul_of_pos_right h1 h4
  have k2 : b * (value (b :: m)).under * (value (a :: l)).under ≤ (value (b :: m)).over * (value (a :: l)).under := Int.mul_le_mul_of_nonneg_right h2 (Int.le_of_lt h3)
  have k3 : (a + 1) * ((value (a :: l)).under * (value (b :: m)).under) ≤ b * ((value (a :: l)).under * (value (b :: m)).under) :=
    Int.mul_le_mul_of_nonneg_right (by omega) (Int.le_of_lt (Int.mul_pos h3 h4))
  have e1 : (a + 1) * (value (a :: l)).under * (value (b :: m)).under = (a + 1) * ((value (a :: l)).under * (value (b :: m)).under) := Int.mul_assoc _ _ _
  have e2 : b * (value (b :: m)).under * (value (a :: l)).under = b * ((value (a :: l)).under * (value (b :: m)).under) := by
    rw [Int.mul_assoc, Int.mul_comm (value (b :: m)).under]
  rw [e1] at k1
  rw [e2] at k2
  omega
theorem lt_under {a c d : Int} {l m : Row} : lt (value (a :: c :: l)) (value (a :: d :: m)) ↔ lt (value (d :: m)) (value (c :: l)) := by
  rw [value_cons, value_cons]
  unfold lt
  dsimp only
  generalize (value (c :: l)).over = X
  generalize (value (c :: l)).under = X'
  generalize (value (d :: m)).over = Y
  generalize (value (d :: m)).under = Y'
  rw [Int.add_mul, Int.add_mul]
  have e : a * X * Y = a * Y * X := by rw [Int.mul_assoc, Int.mul_comm X, ← Int.mul_assoc]
  rw [e, Int.mul_comm X' Y, Int.mul_comm Y' X]
  omega
theorem lt_ends {a c : Int} {l : Row} (hl : okT (c :: l)) : lt (value [a]) (value (a :: c :: l)) := by
  have := tail_big c l hl
  rw [value_one, value_cons]
  unfold lt
  dsimp only
  omega
/-- what compare says of the values -/
structure Cmp (t u : Row) (n : Nat) : Prop where
  le2 : n ≤ 2
  zero : n = 0 → t = u
  one : n = 1 → lt (value t) (value u)
  two : n = 2 → lt (value u) (value t)
theorem cmp : ∀ (k : Nat) (a : Int) (l : Row) (b : Int) (m : Row), l.length + m.length ≤ k → okT l → okT m → Cmp (a :: l) (b :: m) (Kh306.compare true (a :: l) (b :: m)) := by
  intro k
  induction k with
  | zero =>
    intro a l b m hk hl hm
    cases l with
    | cons c l => simp at hk
    | nil =>
      cases m with
      | cons d m => simp at hk
      | nil =>
        rw [Kh306.compare]
        by_cases h : a = b
        · subst h
          rw [if_pos rfl]
          exact ⟨by simp [Kh306.compare], fun _ => rfl, by simp [Kh306.compare], by simp [Kh306.compare]⟩
        · rw [if_neg h]
          by_cases h2 : a < b
          · rw [if_pos (by simp [h2])]
            exact ⟨by omega, by omega, fun _ => lt_of_heads hl hm h2, by omega⟩
          · rw [if_neg (by simp [h2])]
            exact ⟨by omega, by omega, by omega, fun _ => lt_of_heads hm hl (by omega)⟩
  | succ k ih =>
    intro a l b m hk hl hm
    rw [Kh306.compare]
    by_cases h : a = b
    · subst h
      rw [if_pos rfl]
      cases l with
      | nil =>
        cases m with
        | nil => exact ⟨by simp [Kh306.compare], fun _ => rfl, by simp [Kh306.compare], by simp [Kh306.compare]⟩
        | cons d m =>
          have e : Kh306.compare (!true) [] (d :: m) = 1 := rfl
          rw [e]
          exact ⟨by omega, by omega, fun _ => lt_ends hm, by omega⟩
      | cons c l =>
        cases m with
        | nil =>
          have e : Kh306.compare (!true) (c :: l) [] = 2 := rfl
          rw [e]
          exact ⟨by omega, by omega, by omega, fun _ => lt_ends hl⟩
        | cons d m =>
          rw [compare_swap]
          have i := ih d m c l (by simp at hk; omega) (okT_tail hm) (okT_tail hl)
          exact ⟨i.le2, fun z => (by rw [i.zero z]), fun z => lt_under.2 (i.one z), fun z => lt_under.2 (i.two z)⟩
    · rw [if_neg h]
      by_cases h2 : a < b
      · rw [if_pos (by simp [h2])]
        exact ⟨by omega, by omega, fun _ => lt_of_heads hl hm h2, by omega⟩
      · rw [if_neg (by simp [h2])]
        exact ⟨by omega, by omega, by omega, fun _ => lt_of_heads hm hl (by omega)⟩
theorem le_of_cmp {a b : Int} {l m : Row} (hl : okT l) (hm : okT m) (h : Kh306.compare true (a :: l) (b :: m) ≠ 2) : le (value (a :: l)) (value (b :: m)) := by
  have c := cmp _ a l b m (Nat.le_refl _) hl hm
  have h2 := c.le2
  by_cases h0 : Kh306.compare true (a :: l) (b :: m) = 0
  · have e := c.zero h0
    rw [e]
    exact Int.le_refl _
  · have := c.one (by omega)
    unfold lt at this
    unfold le
    omega
theorem cmp_of_le {a b : Int} {l m : Row} (hl : okT l) (hm : okT m) (h : le (value (a :: l)) (value (b :: m))) : Kh306.compare true (a :: l) (b :: m) ≠ 2 := by
  intro h2
  have c := cmp _ a l b m (Nat.le_refl _) hl hm
  have := c.two h2
  unfold lt at this
  unfold le at h
  omega
theorem cmp_lt {a b : Int} {l m : Row} (hl : okT l) (hm : okT m) : Kh306.compare true (a :: l) (b :: m) = if lt (value (a :: l)) (value (b :: m)) then 1 else if lt (value (b :: m)) (value (a :: l)) then 2 else 0 := by
  have c := cmp _ a l b m (Nat.le_refl _) hl hm
  have h2 := c.le2
  by_cases h0 : Kh306.compare true (a :: l) (b :: m) = 0
  · have e := c.zero h0
    rw [h0, e]
    have n : ¬ lt (value (b :: m)) (value (b :: m)) := by
      unfold lt
      omega
    rw [if_neg n, if_neg n]
  · by_cases h1 : Kh306.compare true (a :: l) (b :: m) = 1
    · rw [h1, if_pos (c.one h1)]
    · have h2 : Kh306.compare true (a :: l) (b :: m) = 2 := by omega
      have k := c.two h2
      have n : ¬ lt (value (a :: l)) (value (b :: m)) := by
        unfold lt at k ⊢
        omega
      rw [h2, if_neg n, if_pos k]

/-! the simplest is the least -/
theorem best_okT : ∀ (k : Nat) (a : Int) (l : Row) (b : Int) (m : Row), l.length + m.length ≤ k → okT (a :: l) → okT (b :: m) → Kh306.compare true (a :: l) (b :: m) ≠ 2 →
    okT (best (a :: l) (b :: m)) ∧ ∃ c r, best (a :: l) (b :: m) = c :: r := by
  intro k
  induction k with
  | zero =>
    intro a l b m hk hl hm _
    cases l with
    | cons c l => simp at hk
    | nil =>
      rw [best_one]
      exact ⟨hl, a, [], rfl⟩
  | succ k ih =>
    intro a l b m hk hl hm hc
    cases l with
    | nil =>
      rw [best_one]
      exact ⟨hl, a, [], rfl⟩
    | cons c l =>
      rw [best_cons]
      by_cases h2 : a < b
      · rw [if_pos h2]
        have := okT_head hl
        exact ⟨okT_one.2 (by omega), a + 1, [], rfl⟩
      · rw [if_neg h2]
        rw [Kh306.compare] at hc
        have h : a = b := by
          by_cases h : a = b
          · exact h
          · rw [if_neg h] at hc
            simp [h2] at hc
        subst h
        rw [if_pos rfl] at hc
        cases m with
        | nil => simp [Kh306.compare] at hc
        | cons d m =>
          have hc' : Kh306.compare true (d :: m) (c :: l) ≠ 2 := by
            rw [compare_swap]
            exact hc
          obtain ⟨i1, e, r, i2⟩ := ih d m c l (by simp at hk; omega) (okT_tail hm) (okT_tail hl) hc'
          refine ⟨?_, a, _, rfl⟩
          rw [i2] at i1 ⊢
          exact okT_cons.2 ⟨okT_head hl, i1⟩
theorem best_len : ∀ (k : Nat) (t u : Row), t.length + u.length ≤ k → (best t u).length ≤ max t.length u.length := by
  intro k
  induction k with
  | zero =>
    intro t u hk
    cases t with
    | nil =>
      rw [best]
      simp
    | cons a l => simp at hk
  | succ k ih =>
    intro t u hk
    cases t with
    | nil =>
      rw [best]
      simp
    | cons a l =>
      cases u with
      | nil =>
        rw [best]
        simp
      | cons b m =>
        cases l with
        | nil =>
          rw [best_one]
          simp only [List.length_cons, List.length_nil]
          omega
        | cons c l =>
          rw [best_cons]
          split
          · simp only [List.length_cons, List.length_nil]
            omega
          · have := ih m (c :: l) (by simp at hk ⊢; omega)
            simp only [List.length_cons] at this ⊢
            omega
/-- p / q lies from x to y -/
structure Lies (x y : Frac) (p q : Int) : Prop where
  pos : 0 < q
  lo : x.over * q ≤ p * x.under
  hi : p * y.under ≤ y.over * q
structure Least (x y v : Frac) : Prop where
  lies : Lies x y v.over v.under
  least : ∀ p q, Lies x y p q → v.over ≤ p ∧ v.under ≤ q
theorem best_least : ∀ (k : Nat) (a : Int) (l : Row) (b : Int) (m : Row), l.length + m.length ≤ k → 0 ≤ a → okT l → okT m → Kh306.compare true (a :: l) (b :: m) ≠ 2 →
    Least (value (a :: l)) (value (b :: m)) (value (best (a :: l) (b :: m))) := by
  intro k
  induction k with
  | zero =>
    intro a l b m hk ha hl hm hc
    cases l with
    | cons c l => simp at hk
    | nil =>
      have hle := le_of_cmp hl hm hc
      rw [best_one]
      rw [value_one] at hle ⊢
      refine ⟨⟨?_, ?_, ?_⟩, ?_⟩
      · show (0 : Int) < 1
        decide
      · exact Int.le_refl _
      · exact hle
      · intro p q h
        have h1 := h.lo
        have h2 := h.pos
        have h3 : a * 1 ≤ a * q := Int.mul_le_mul_of_nonneg_left (by omega) ha
        show a ≤ p ∧ 1 ≤ q
        have h4 : a * q ≤ p * 1 := h1
        omega
  | succ k ih =>
    intro a l b m hk ha hl hm hc
    cases l with
    | nil =>
      have hle := le_of_cmp hl hm hc
      rw [best_one]
      rw [value_one] at hle ⊢
      refine ⟨⟨?_, ?_, ?_⟩, ?_⟩
      · show (0 : Int) < 1
        decide
      · exact Int.le_refl _
      · exact hle
      · intro p q h
        have h1 := h.lo
        have h2 := h.pos
        have h3 : a * 1 ≤ a * q := Int.mul_le_mul_of_nonneg_left (by omega) ha
        show a ≤ p ∧ 1 ≤ q
        have h4 : a * q ≤ p * 1 := h1
        omega
    | cons c l =>
      obtain ⟨x1, x2⟩ := tail_big c l hl
      rw [best_cons]
      by_cases h2 : a < b
      · rw [if_pos h2]
        have f1 := lt_floor a (c :: l) hl
        have f2 := floor_le b m hm
        have f3 := under_pos b m hm
        rw [value_one]
        refine ⟨⟨?_, ?_, ?_⟩, ?_⟩
        · show (0 : Int) < 1
          decide
        · show (value (a :: c :: l)).over * 1 ≤ (a + 1) * (value (a :: c :: l)).under
          omega
        · show (a + 1) * (value (b :: m)).under ≤ (value (b :: m)).over * 1
          have := Int.mul_le_mul_of_nonneg_right (show a + 1 ≤ b by omega) (Int.le_of_lt f3)
          omega
        · intro p q h
          have g1 := h.lo
          have g2 := h.pos
          show a + 1 ≤ p ∧ 1 ≤ q
          rw [value_cons] at g1
          dsimp only at g1
          generalize (value (c :: l)).over = X at *
          generalize (value (c :: l)).under = X' at *
          refine ⟨?_, by omega⟩
          have g3 : a * 1 ≤ a * q := Int.mul_le_mul_of_nonneg_left (by omega) ha
          have g4 : 0 < X' * q := Int.mul_pos x1 g2
          rw [Int.add_mul] at g1
          have g5 : a * q * X < p * X := by
            have : a * X * q = a * q * X := by rw [Int.mul_assoc, Int.mul_comm X, ← Int.mul_assoc]
            omega
          have g6 : a * q < p := Int.lt_of_mul_lt_mul_right g5 (by omega)
          omega
      · rw [if_neg h2]
        rw [Kh306.compare] at hc
        have h : a = b := by
          by_cases h : a = b
          · exact h
          · rw [if_neg h] at hc
            simp [h2] at hc
        subst h
        rw [if_pos rfl] at hc
        cases m with
        | nil => simp [Kh306.compare] at hc
        | cons d m =>
          have hc' : Kh306.compare true (d :: m) (c :: l) ≠ 2 := by
            rw [compare_swap]
            exact hc
          have L := ih d m c l (by simp at hk; omega) (by have := okT_head hm; omega) (okT_tail hm) (okT_tail hl) hc'
          obtain ⟨k1, e, r, er⟩ := best_okT _ d m c l (Nat.le_refl _) hm hl hc'
          obtain ⟨y1, y2⟩ := tail_big d m hm
          rw [er] at L k1 ⊢
          obtain ⟨v1, v2⟩ := tail_big e r k1
          rw [value_cons, value_cons, value_cons]
          obtain ⟨⟨l1, l2, l3⟩, l4⟩ := L
          generalize (value (c :: l)) = x at *
          generalize (value (d :: m)) = y at *
          generalize (value (e :: r)) = v at *
          have step : ∀ p q : Int, Lies ⟨a * x.over + x.under, x.over⟩ ⟨a * y.over + y.under, y.over⟩ p q ↔ (0 < q ∧ x.under * q ≤ (p - a * q) * x.over ∧ (p - a * q) * y.over ≤ y.under * q) := by
            intro p q
            have e1 : ∀ z w : Int, (a * z + w) * q ≤ p * z ↔ w * q ≤ (p - a * q) * z := by
              intro z w
              rw [Int.add_mul, Int.sub_mul]
              have : a * z * q = a * q * z := by rw [Int.mul_assoc, Int.mul_comm z, ← Int.mul_assoc]
              omega
            have e2 : ∀ z w : Int, p * z ≤ (a * z + w) * q ↔ (p - a * q) * z ≤ w * q := by
              intro z w
              rw [Int.add_mul, Int.sub_mul]
              have : a * z * q = a * q * z := by rw [Int.mul_assoc, Int.mul_comm z, ← Int.mul_assoc]
              omega
            constructor
            · intro h
              exact ⟨h.pos, (e1 _ _).1 h.lo, (e2 _ _).1 h.hi⟩
            · intro h
              exact ⟨h.1, (e1 _ _).2 h.2.1, (e2 _ _).2 h.2.2⟩
          refine ⟨(step _ _).2 ?_, ?_⟩
          · have es : a * v.over + v.under - a * v.over = v.under := by omega
            rw [es]
            refine ⟨by dsimp only; omega, ?_, ?_⟩
            · rw [Int.mul_comm x.under, Int.mul_comm v.under]
              exact l3
            · rw [Int.mul_comm v.under, Int.mul_comm y.under]
              exact l2
          · intro p q hp
            obtain ⟨s1, s2, s3⟩ := (step p q).1 hp
            have q0 : 0 < p - a * q := by
              have g : 0 < x.under * q := Int.mul_pos x1 s1
              have g2 : 0 < (p - a * q) * x.over := by omega
              exact Int.pos_of_mul_pos_left g2 (by omega)
            have i := l4 q (p - a * q) ⟨q0, by rw [Int.mul_comm y.over, Int.mul_comm q]; exact s3, by rw [Int.mul_comm q, Int.mul_comm x.over]; exact s2⟩
            dsimp only
            refine ⟨?_, i.1⟩
            have := Int.mul_le_mul_of_nonneg_left i.1 ha
            omega
end Rw
set_option Elab.async false
namespace Rw
open Kh306
/-- the row of a value turned below (above) 0 -/
def neg : Row → Row
  | [] => []
  | [a] => [-a]
  | [a, c] => if c = 2 then [-a - 1, 2] else [-a - 1, 1, c - 1]
  | a :: c :: d :: k => if c = 1 then (-a - 1) :: (d + 1) :: k else (-a - 1) :: 1 :: (c - 1) :: d :: k
theorem value_add (d j : Int) (k : Row) : value ((d + j) :: k) = ⟨(value (d :: k)).over + j * (value (d :: k)).under, (value (d :: k)).under⟩ := by
  cases k with
  | nil =>
    rw [value_one, value_one]
    dsimp only
    rw [Int.mul_one]
  | cons e k =>
    rw [value_cons, value_cons]
    dsimp only
    rw [Int.add_mul]
    congr 1
    omega
theorem okT_more {d : Int} {k : Row} (h : okT (d :: k)) {e : Int} (he : d ≤ e) : okT (e :: k) := by
  cases k with
  | nil =>
    have := okT_one.1 h
    exact okT_one.2 (by omega)
  | cons f k =>
    have := okT_cons.1 h
    exact okT_cons.2 ⟨by omega, this.2⟩
theorem neg_value : ∀ (a : Int) (l : Row), okT l → value (neg (a :: l)) = ⟨-(value (a :: l)).over, (value (a :: l)).under⟩
  | a, [], _ => by
    rw [neg, value_one, value_one]
  | a, [c], h => by
    rw [neg]
    split
    · rename_i hc
      subst hc
      rw [value_cons, value_cons, value_one]
      dsimp only
      congr 1
      omega
    · rw [value_cons, value_cons, value_cons, value_one, value_one]
      dsimp only
      rw [Int.sub_mul, Int.neg_mul]
      have e : 1 * (c - 1) + 1 = c := by omega
      rw [e]
      congr 1
      omega
  | a, c :: d :: k, h => by
    rw [neg]
    split
    · rename_i hc
      subst hc
      rw [value_cons, value_cons, value_cons, value_add]
      dsimp only
      generalize (value (d :: k)).over = Z
      generalize (value (d :: k)).under = Z'
      rw [Int.one_mul, Int.one_mul, Int.sub_mul, Int.neg_mul]
      congr 1
      omega
    · rw [value_cons, value_cons, value_cons, value_cons, value_cons]
      dsimp only
      generalize (value (d :: k)).over = Z
      generalize (value (d :: k)).under = Z'
      have e : 1 * ((c - 1) * Z + Z') + Z = c * Z + Z' := by
        rw [Int.one_mul, Int.sub_mul]
        omega
      rw [e, Int.sub_mul, Int.neg_mul, Int.sub_mul]
      congr 1
      omega
/-- what neg gives: a first number, a good rest -/
theorem neg_form : ∀ (a : Int) (l : Row), okT l → ∃ b m, neg (a :: l) = b :: m ∧ okT m ∧ m.length ≤ l.length + 1 ∧ ((l = [] ∧ b = -a) ∨ (l ≠ [] ∧ b = -a - 1))
  | a, [], _ => ⟨-a, [], by rw [neg], okT_nil, by simp, Or.inl ⟨rfl, rfl⟩⟩
  | a, [c], h => by
    have hc := okT_one.1 h
    rw [neg]
    split
    · exact ⟨_, _, rfl, okT_one.2 (by omega), by simp, Or.inr ⟨by simp, rfl⟩⟩
    · exact ⟨_, _, rfl, okT_cons.2 ⟨by omega, okT_one.2 (by omega)⟩, by simp, Or.inr ⟨by simp, rfl⟩⟩
  | a, c :: d :: k, h => by
    obtain ⟨h1, h2⟩ := okT_cons.1 h
    rw [neg]
    split
    · exact ⟨_, _, rfl, okT_more h2 (by omega), by simp only [List.length_cons]; omega, Or.inr ⟨by simp, rfl⟩⟩
    · exact ⟨_, _, rfl, okT_cons.2 ⟨by omega, okT_cons.2 ⟨by omega, h2⟩⟩, by simp, Or.inr ⟨by simp, rfl⟩⟩
/-- the simplest, by rows alone -/
def pick : Row → Row → Row
  | [], _ => []
  | _ :: _, [] => []
  | a :: l, b :: m =>
    if a < b then (if 0 ≤ a then (if l = [] then [a] else [a + 1]) else if 0 ≤ b then [0] else [b])
    else if l = [] then [a] else a :: best m l
/-- with the same over there is just one under -/
theorem least_same {x y v : Frac} (L : Least x y v) (hx : 0 < x.under) (hb : x.under < x.over) (hv : 0 < v.under) (hy : 0 < y.under) {r : Int} (h : Lies x y v.over r) : r = v.under := by
  have h1 := (L.least _ _ h).2
  by_cases e : r = v.under
  · exact e
  · exfalso
    obtain ⟨p0, p1, p2⟩ := h
    obtain ⟨⟨_, q1, q2⟩, q3⟩ := L
    -- (over - 1) / (r - 1) lies between too
    have vo : r ≤ v.over := by
      have : r * x.under < v.over * x.under + 1 := by
        have g : r * x.under ≤ x.over * r := by
          rw [Int.mul_comm r]
          exact Int.mul_le_mul_of_nonneg_right (Int.le_of_lt hb) (Int.le_of_lt p0)
        omega
      have g2 : r * x.under ≤ v.over * x.under := by omega
      exact Int.le_of_mul_le_mul_right g2 hx
    have k := q3 (v.over - 1) (r - 1) ⟨by omega, ?_, ?_⟩
    · omega
    · rw [Int.mul_sub, Int.sub_mul]
      omega
    · -- (v.over - 1) * y.under ≤ y.over * (r - 1)
      have yo : 0 < y.over := by
        have g : 0 < v.over * y.under := Int.mul_pos (by omega) hy
        have g2 : 0 < y.over * r := by omega
        exact Int.pos_of_mul_pos_left g2 p0
      have g : y.over * v.under ≤ y.over * (r - 1) := Int.mul_le_mul_of_nonneg_left (by omega) (Int.le_of_lt yo)
      rw [Int.sub_mul]
      omega
end Rw
set_option Elab.async false
namespace Rw
open Kh306
theorem same_heads {a b : Int} {l m : Row} (hc : Kh306.compare true (a :: l) (b :: m) ≠ 2) (h : ¬ a < b) : a = b ∧ Kh306.compare true m l ≠ 2 := by
  rw [Kh306.compare] at hc
  by_cases e : a = b
  · refine ⟨e, ?_⟩
    rw [if_pos e] at hc
    rw [compare_swap]
    exact hc
  · rw [if_neg e] at hc
    simp [h] at hc
theorem over_neg {b : Int} {m : Row} (hm : okT m) (h : (value (b :: m)).over < 0) : b < 0 := by
  have h1 := floor_le b m hm
  have h2 := under_pos b m hm
  apply Classical.byContradiction
  intro hb
  have : 0 ≤ b * (value (b :: m)).under := Int.mul_nonneg (by omega) (Int.le_of_lt h2)
  omega
theorem over_nonneg {b : Int} {m : Row} (hm : okT m) (h : 0 ≤ (value (b :: m)).over) : 0 ≤ b := by
  have h1 := lt_floor b m hm
  have h2 := under_pos b m hm
  apply Classical.byContradiction
  intro hb
  have : (b + 1) * (value (b :: m)).under ≤ 0 := Int.mul_nonpos_of_nonpos_of_nonneg (by omega) (Int.le_of_lt h2)
  omega
theorem over_pos {a : Int} {l : Row} (hl : okT l) : 0 < (value (a :: l)).over ↔ (0 < a ∨ (a = 0 ∧ l ≠ [])) := by
  constructor
  · intro h
    have h1 := over_nonneg (b := a) hl (by omega)
    by_cases ha : 0 < a
    · exact Or.inl ha
    · refine Or.inr ⟨by omega, ?_⟩
      intro e
      subst e
      rw [value_one] at h
      dsimp only at h
      omega
  · intro h
    rcases h with h | ⟨h, e⟩
    · have h1 := floor_le a l hl
      have h2 := under_pos a l hl
      have := Int.mul_pos h h2
      omega
    · subst h
      cases l with
      | nil => exact absurd rfl e
      | cons c l =>
        have := tail_big c l hl
        rw [value_cons]
        dsimp only
        omega
/-- both below 0: a whole number between -/
theorem below_whole {x y s : Frac} {b : Int} (L : Least x y s) (hs : 0 < s.under) (hx : 0 < x.under) (hb : Lies x y (-b) 1) (h : (-b - 1) * x.under < x.over) : s = ⟨-b, 1⟩ := by
  obtain ⟨i1, i2⟩ := L.least _ _ hb
  obtain ⟨⟨_, j1, _⟩, _⟩ := L
  have e : s.under = 1 := by omega
  rw [e] at j1
  have k : (-b - 1) * x.under < s.over * x.under := by omega
  have k2 := Int.lt_of_mul_lt_mul_right k (Int.le_of_lt hx)
  have e2 : s.over = -b := by omega
  cases s
  simp_all
theorem simplest_pick {a b : Int} {l m : Row} (hl : okT l) (hm : okT m) (nl : l.length ≤ 95) (nm : m.length ≤ 95) (hc : Kh306.compare true (a :: l) (b :: m) ≠ 2) :
    Kh306.simplest (a :: l) (b :: m) = pick (a :: l) (b :: m) := by
  rw [Kh306.simplest, pick]
  dsimp only
  have ux := under_pos a l hl
  have uy := under_pos b m hm
  by_cases h1 : 0 < (value (a :: l)).over
  · rw [if_pos h1, simplestAbove_best 100 a l b m hl hm hc (by omega) (by omega)]
    have ha : 0 ≤ a := over_nonneg hl (by omega)
    rw [if_pos ha]
    cases l with
    | nil => simp [best_one]
    | cons c l => simp [best_cons]
  · rw [if_neg h1]
    by_cases h2 : 0 ≤ (value (b :: m)).over
    · rw [if_pos h2]
      have hb := over_nonneg hm h2
      have hn : ¬ (0 < a ∨ (a = 0 ∧ l ≠ [])) := fun h => h1 ((over_pos hl).2 h)
      have ha : a ≤ 0 := by
        apply Classical.byContradiction
        intro h
        exact hn (Or.inl (by omega))
      by_cases e : a = 0
      · have el : l = [] := by
          apply Classical.byContradiction
          intro h
          exact hn (Or.inr ⟨e, h⟩)
        subst e el
        simp
      · have hab : a < b := by omega
        rw [if_pos hab, if_neg (by omega), if_pos hb]
    · rw [if_neg h2]
      have hb : b < 0 := over_neg hm (by omega)
      have hle := le_of_cmp hl hm hc
      obtain ⟨b', m', en, om, lm, hbm⟩ := neg_form b m hm
      obtain ⟨a', l', el, ol, ll, hal⟩ := neg_form a l hl
      have vn := neg_value b m hm
      have vl := neg_value a l hl
      rw [en] at vn
      rw [el] at vl
      have hb' : 0 ≤ b' := by
        rcases hbm with ⟨_, h⟩ | ⟨_, h⟩ <;> omega
      have hc' : Kh306.compare true (b' :: m') (a' :: l') ≠ 2 := by
        refine cmp_of_le om ol ?_
        rw [vn, vl]
        unfold le at hle ⊢
        dsimp only
        rw [Int.neg_mul, Int.neg_mul]
        omega
      rw [← vn, ← vl, simplestAbove_best 100 b' m' a' l' om ol hc' (by omega) (by omega)]
      have L := best_least _ b' m' a' l' (Nat.le_refl _) hb' om ol hc'
      generalize value (best (b' :: m') (a' :: l')) = s at L ⊢
      have hs : 0 < s.under := L.lies.pos
      -- a whole number between
      have whole : le (value (a :: l)) ⟨b, 1⟩ → ofPQ (-s.over) s.under = [b] := by
        intro hw
        have e : s = ⟨-b, 1⟩ := by
          refine below_whole L hs (by rw [vn]; exact uy) ⟨by omega, ?_, ?_⟩ ?_
          · rw [vn]
            dsimp only
            have := floor_le b m hm
            simp only [Int.neg_mul]
            omega
          · rw [vl]
            dsimp only
            unfold le at hw
            dsimp only at hw
            rw [Int.neg_mul]
            omega
          · rw [vn]
            dsimp only
            have := lt_floor b m hm
            rw [Int.add_mul] at this
            rw [Int.sub_mul, Int.neg_mul]
            omega
        rw [e]
        dsimp only
        have := ofFrac_value 100 b [] okT_nil (by simp)
        rw [value_one] at this
        rw [Int.neg_neg]
        exact this
      by_cases hab : a < b
      · rw [if_pos hab, if_neg (by omega), if_neg (by omega)]
        apply whole
        unfold le
        dsimp only
        have f1 := lt_floor a l hl
        have := Int.mul_le_mul_of_nonneg_right (show a + 1 ≤ b by omega) (Int.le_of_lt ux)
        omega
      · rw [if_neg hab]
        obtain ⟨e, hcm⟩ := same_heads hc hab
        subst e
        cases l with
        | nil =>
          rw [if_pos rfl]
          apply whole
          rw [value_one]
          exact Int.le_refl _
        | cons c l =>
          rw [if_neg (by simp)]
          cases m with
          | nil => simp [Kh306.compare] at hcm
          | cons d m =>
            have L2 := best_least _ d m c l (Nat.le_refl _) (by have := okT_head hm; omega) (okT_tail hm) (okT_tail hl) hcm
            obtain ⟨k1, e, r, er⟩ := best_okT _ d m c l (Nat.le_refl _) hm hl hcm
            have bl := best_len _ (d :: m) (c :: l) (Nat.le_refl _)
            rw [er] at L2 k1 bl ⊢
            obtain ⟨v1, v2⟩ := tail_big e r k1
            obtain ⟨x1, x2⟩ := tail_big c l hl
            obtain ⟨y1, y2⟩ := tail_big d m hm
            have goal := ofFrac_value 100 a (e :: r) k1 (by simp only [List.length_cons] at *; omega)
            rw [value_cons] at goal
            dsimp only at goal
            rw [vn, vl, value_cons, value_cons] at L
            dsimp only at L
            have hsame := fun q => @least_same _ _ _ L2 y1 y2 v1 x1 q
            generalize value (c :: l) = x at *
            generalize value (d :: m) = y at *
            generalize value (e :: r) = v at *
            -- lies in one, lies in the other
            have turn : ∀ p q : Int, 0 < q → (Lies ⟨-(a * y.over + y.under), y.over⟩ ⟨-(a * x.over + x.under), x.over⟩ p q ↔ Lies y x q (-p - a * q)) := by
              intro p q hq
              have e1 : ∀ z w : Int, -(a * z + w) * q ≤ p * z ↔ z * (-p - a * q) ≤ q * w := by
                intro z w
                have i1 : -(a * z + w) * q = -(a * (z * q)) - w * q := by
                  rw [Int.neg_mul, Int.add_mul, Int.mul_assoc]
                  omega
                have i2 : z * (-p - a * q) = -(p * z) - a * (z * q) := by
                  rw [Int.mul_sub, Int.mul_neg, Int.mul_comm z p, Int.mul_left_comm]
                rw [i1, i2, Int.mul_comm q w]
                omega
              have e2 : ∀ z w : Int, p * z ≤ -(a * z + w) * q ↔ q * w ≤ z * (-p - a * q) := by
                intro z w
                have i1 : -(a * z + w) * q = -(a * (z * q)) - w * q := by
                  rw [Int.neg_mul, Int.add_mul, Int.mul_assoc]
                  omega
                have i2 : z * (-p - a * q) = -(p * z) - a * (z * q) := by
                  rw [Int.mul_sub, Int.mul_neg, Int.mul_comm z p, Int.mul_left_comm]
                rw [i1, i2, Int.mul_comm q w]
                omega
              constructor
              · intro h
                have h2 : q * x.under ≤ x.over * (-p - a * q) := (e2 _ _).1 h.hi
                refine ⟨?_, (e1 _ _).1 h.lo, h2⟩
                have g : 0 < q * x.under := Int.mul_pos hq x1
                have g2 : 0 < x.over * (-p - a * q) := by omega
                exact Int.pos_of_mul_pos_right g2 (by omega)
              · intro h
                exact ⟨hq, (e1 _ _).2 h.lo, (e2 _ _).2 h.hi⟩
            have t1 := (turn s.over s.under hs).1 L.lies
            have b1 := (L2.least _ _ t1).1
            have t2 : Lies ⟨-(a * y.over + y.under), y.over⟩ ⟨-(a * x.over + x.under), x.over⟩ (-(a * v.over + v.under)) v.over := by
              refine (turn _ _ (by omega)).2 ?_
              have e : -(-(a * v.over + v.under)) - a * v.over = v.under := by omega
              rw [e]
              exact L2.lies
            have b2 := (L.least _ _ t2).2
            have eu : s.under = v.over := by omega
            rw [eu] at t1
            have eo := hsame _ t1
            have eso : -s.over = a * v.over + v.under := by omega
            rw [eu, eso]
            exact goal
end Rw
set_option Elab.async false
namespace Rw
open Kh306
theorem M_eq : Kh306.M = 4611686018427387904 := by decide
theorem okTail_iff : ∀ l : Row, okTail l = true ↔ (∀ x ∈ l, 1 ≤ x ∧ x ≤ M) ∧ (∀ h : l ≠ [], 2 ≤ l.getLast h)
  | [] => by simp [okTail]
  | [a] => by
    unfold okTail
    simp
    omega
  | a :: b :: l => by
    rw [okTail]
    · have ih := okTail_iff (b :: l)
      simp only [Bool.and_eq_true, decide_eq_true_eq, ih]
      constructor
      · rintro ⟨h1, h2, h3, h4⟩
        refine ⟨?_, ?_⟩
        · intro x hx
          cases hx with
          | head => exact ⟨h1, h2⟩
          | tail _ hx => exact h3 x hx
        · intro h
          rw [List.getLast_cons (by simp)]
          exact h4 (by simp)
      · rintro ⟨h1, h2⟩
        refine ⟨(h1 a (by simp)).1, (h1 a (by simp)).2, ?_, ?_⟩
        · intro x hx
          exact h1 x (List.mem_cons_of_mem _ hx)
        · intro h
          have := h2 (by simp)
          rw [List.getLast_cons (by simp)] at this
          exact this
    · intro h
      cases h
/-- a row, told by its places -/
structure Good (t : Row) : Prop where
  pos : 0 < t.length
  len : t.length ≤ 96
  size : ∀ i : Nat, i < t.length → -4611686018427387904 ≤ t.getD i 0 ∧ t.getD i 0 ≤ 4611686018427387904
  up : ∀ i : Nat, 0 < i → i < t.length → 1 ≤ t.getD i 0
  last : 1 < t.length → 2 ≤ t.getD (t.length - 1) 0
theorem ok_iff (t : Row) : ok t = true ↔ Good t := by
  cases t with
  | nil =>
    constructor
    · intro h
      simp [ok] at h
    · intro h
      have := h.pos
      simp at this
  | cons a l =>
    rw [ok_cons, okTail_iff, M_eq]
    constructor
    · rintro ⟨h1, h2, ⟨h3, h4⟩, h5⟩
      refine ⟨by simp, by simp; omega, ?_, ?_, ?_⟩
      · intro i hi
        cases i with
        | zero => simp; omega
        | succ i =>
          simp at hi
          have e : (a :: l).getD (i + 1) 0 = l[i] := by
            simp [hi]
          have := h3 _ (List.getElem_mem hi)
          rw [e]
          omega
      · intro i h0 hi
        cases i with
        | zero => omega
        | succ i =>
          simp at hi
          have e : (a :: l).getD (i + 1) 0 = l[i] := by
            simp [hi]
          have := h3 _ (List.getElem_mem hi)
          rw [e]
          omega
      · intro hl
        have hn : l ≠ [] := by
          intro e
          subst e
          simp at hl
        have := h4 hn
        have hlen : 0 < l.length := List.length_pos_iff.2 hn
        have e : (a :: l).getD ((a :: l).length - 1) 0 = l.getLast hn := by
          rw [List.getLast_eq_getElem]
          have e2 : (a :: l).length - 1 = (l.length - 1) + 1 := by
            simp
            omega
          rw [e2]
          simp [show l.length - 1 < l.length by omega]
        rw [e]
        exact this
    · intro h
      have z := h.size 0 (by simp)
      simp at z
      refine ⟨z.1, z.2, ⟨?_, ?_⟩, ?_⟩
      · intro x hx
        obtain ⟨i, hi, e⟩ := List.getElem_of_mem hx
        have e2 : (a :: l).getD (i + 1) 0 = x := by
          simp [hi, e]
        have h1 := h.size (i + 1) (by simp; omega)
        have h2 := h.up (i + 1) (by omega) (by simp; omega)
        rw [e2] at h1 h2
        omega
      · intro hn
        have hlen : 0 < l.length := List.length_pos_iff.2 hn
        have e : (a :: l).getD ((a :: l).length - 1) 0 = l.getLast hn := by
          rw [List.getLast_eq_getElem]
          have e2 : (a :: l).length - 1 = (l.length - 1) + 1 := by
            simp
            omega
          rw [e2]
          simp [show l.length - 1 < l.length by omega]
        have := h.last (by simp; omega)
        rw [e] at this
        exact this
      · have := h.len
        simp at this
        omega
/-- value, from behind -/
theorem value_step (t : Row) (i : Nat) (h : i + 1 < t.length) :
    value (t.drop i) = ⟨t.getD i 0 * (value (t.drop (i + 1))).over + (value (t.drop (i + 1))).under, (value (t.drop (i + 1))).over⟩ := by
  have e1 : t.drop i = t[i] :: t.drop (i + 1) := List.drop_eq_getElem_cons (by omega)
  have e2 : t.drop (i + 1) = t[i + 1] :: t.drop (i + 2) := List.drop_eq_getElem_cons h
  have e3 : t.getD i 0 = t[i] := by simp [show i < t.length by omega]
  rw [e3, e1, e2, value_cons]
theorem value_last (t : Row) (h : 0 < t.length) : value (t.drop (t.length - 1)) = ⟨t.getD (t.length - 1) 0, 1⟩ := by
  have e1 : t.drop (t.length - 1) = t[t.length - 1] :: t.drop (t.length - 1 + 1) := List.drop_eq_getElem_cons (by omega)
  have e2 : t.drop (t.length - 1 + 1) = [] := List.drop_eq_nil_of_le (by omega)
  have e3 : t.getD (t.length - 1) 0 = t[t.length - 1] := by simp [show t.length - 1 < t.length by omega]
  rw [e3, e1, e2, value_one]
theorem value_spec (t : Row) : PyKh306.value t = if ok t = false then [-22] else
    if (value t).over < -4611686018427387904 ∨ 4611686018427387904 < (value t).over ∨ 4611686018427387904 < (value t).under then [-75] else [0, (value t).over, (value t).under] := by
  have e : PyKh306.value t = (Kh306.doing (.value t)).value :: (Kh306.doing (.value t)).out := rfl
  rw [e, Kh306.doing, M_eq]
  split
  · rfl
  · dsimp only
    split <;> rfl
theorem less_spec (t u : Row) : PyKh306.less t u = if ok t = false ∨ ok u = false then [(-22 : Int)] else [((Kh306.compare true t u : Nat) : Int)] := by
  have e : PyKh306.less t u = (Kh306.doing (.less t u)).value :: (Kh306.doing (.less t u)).out := rfl
  rw [e, Kh306.doing]
  split <;> rfl
theorem simplest_spec (t u : Row) : PyKh306.simplest t u = if ok t = false ∨ ok u = false then [-22] else if Kh306.compare true t u = 2 then [-33] else ((pick t u).length : Int) :: pick t u := by
  have e : PyKh306.simplest t u = (Kh306.doing (.simplest t u)).value :: (Kh306.doing (.simplest t u)).out := rfl
  rw [e, Kh306.doing]
  split
  · rfl
  · rename_i h
    split
    · rfl
    · rename_i h2
      dsimp only
      have ht : ok t = true := by
        cases h3 : ok t with
        | true => rfl
        | false => exact absurd (Or.inl h3) h
      have hu : ok u = true := by
        cases h3 : ok u with
        | true => rfl
        | false => exact absurd (Or.inr h3) h
      cases t with
      | nil => simp [ok] at ht
      | cons a l =>
        cases u with
        | nil => simp [ok] at hu
        | cons b m =>
          obtain ⟨_, _, l1, l2⟩ := ok_cons.1 ht
          obtain ⟨_, _, m1, m2⟩ := ok_cons.1 hu
          rw [simplest_pick (okT_of _ l1) (okT_of _ m1) l2 m2 h2]
end Rw
set_option Elab.async false
namespace Rw
open Kh306
/-- the first i places of both are there, and alike -/
structure Alike (i : Nat) (t u : Row) : Prop where
  lt : i ≤ t.length
  lu : i ≤ u.length
  same : ∀ j : Nat, j < i → t.getD j 0 = u.getD j 0
theorem Alike.zero (t u : Row) : Alike 0 t u := ⟨by omega, by omega, fun j h => by omega⟩
theorem Alike.next {i : Nat} {t u : Row} (h : Alike i t u) (ht : i < t.length) (hu : i < u.length) (e : t.getD i 0 = u.getD i 0) : Alike (i + 1) t u :=
  ⟨by omega, by omega, fun j hj => by
    by_cases h1 : j = i
    · rw [h1]; exact e
    · exact h.same j (by omega)⟩
theorem Alike.symm {i : Nat} {t u : Row} (h : Alike i t u) : Alike i u t := ⟨h.lu, h.lt, fun j hj => (h.same j hj).symm⟩
theorem Alike.tail {i : Nat} {a b : Int} {l m : Row} (h : Alike (i + 1) (a :: l) (b :: m)) : a = b ∧ Alike i l m := by
  refine ⟨by simpa using h.same 0 (by omega), by simpa using h.lt, by simpa using h.lu, fun j hj => ?_⟩
  simpa using h.same (j + 1) (by omega)
theorem Alike.take : ∀ {i : Nat} {t u : Row}, Alike i t u → t.take i = u.take i
  | 0, _, _, _ => by simp
  | i + 1, [], _, h => by have := h.lt; simp at this
  | i + 1, _ :: _, [], h => by have := h.lu; simp at this
  | i + 1, a :: l, b :: m, h => by
    obtain ⟨e, h2⟩ := h.tail
    simp [e, h2.take]
theorem compare_next (e : Bool) (a : Int) (l m : Row) : Kh306.compare e (a :: l) (a :: m) = Kh306.compare (!e) l m := by
  rw [Kh306.compare, if_pos rfl]
theorem compare_diff : ∀ {i : Nat} {t u : Row} (e : Bool), Alike i t u → i < t.length → i < u.length → t.getD i 0 ≠ u.getD i 0 →
    Kh306.compare e t u = if (decide (t.getD i 0 < u.getD i 0)) == (decide (i % 2 = 0) == e) then 1 else 2
  | _, [], _, _, _, ht, _, _ => by simp at ht
  | _, _ :: _, [], _, _, _, hu, _ => by simp at hu
  | 0, a :: l, b :: m, e, h, ht, hu, hne => by
    have hne' : a ≠ b := by simpa using hne
    rw [Kh306.compare, if_neg hne']
    simp
  | i + 1, a :: l, b :: m, e, h, ht, hu, hne => by
    obtain ⟨e1, h2⟩ := h.tail
    subst e1
    have ih := compare_diff (!e) h2 (by simpa using ht) (by simpa using hu) (by simpa using hne)
    rw [compare_next, ih]
    have p : (decide (i % 2 = 0) == !e) = (decide ((i + 1) % 2 = 0) == e) := by
      rcases Nat.mod_two_eq_zero_or_one i with h3 | h3
      · have h4 : (i + 1) % 2 = 1 := by omega
        cases e <;> simp [h3, h4]
      · have h4 : (i + 1) % 2 = 0 := by omega
        cases e <;> simp [h3, h4]
    rw [p]
    simp
theorem compare_shorter : ∀ {i : Nat} {t u : Row} (e : Bool), Alike i t u → i = t.length → i < u.length →
    Kh306.compare e t u = if decide (i % 2 = 0) == e then 2 else 1
  | 0, [], b :: m, e, _, _, _ => by cases e <;> simp [Kh306.compare]
  | 0, _ :: _, _, _, _, ht, _ => by simp at ht
  | i, _, [], _, _, _, hu => by simp at hu
  | i + 1, [], _ :: _, e, h, ht, hu => by simp at ht
  | i + 1, a :: l, b :: m, e, h, ht, hu => by
    obtain ⟨e1, h2⟩ := h.tail
    subst e1
    have ih := compare_shorter (!e) h2 (by simpa using ht) (by simpa using hu)
    rw [compare_next, ih]
    rcases Nat.mod_two_eq_zero_or_one i with h3 | h3
    · have h4 : (i + 1) % 2 = 1 := by omega
      cases e <;> simp [h3, h4]
    · have h4 : (i + 1) % 2 = 0 := by omega
      cases e <;> simp [h3, h4]
theorem compare_longer {i : Nat} {t u : Row} (e : Bool) (h : Alike i t u) (hu : i = u.length) (ht : i < t.length) :
    Kh306.compare e t u = if decide (i % 2 = 0) == e then 1 else 2 := by
  rw [compare_swap, compare_shorter (!e) h.symm hu ht]
  cases e <;> cases decide (i % 2 = 0) <;> simp
theorem compare_same : ∀ {i : Nat} {t u : Row} (e : Bool), Alike i t u → i = t.length → i = u.length → Kh306.compare e t u = 0
  | 0, [], [], e, _, _, _ => by cases e <;> rfl
  | 0, _ :: _, _, _, _, ht, _ => by simp at ht
  | _, [], _ :: _, _, _, ht, hu => by simp at ht hu; omega
  | i + 1, [], [], e, h, ht, hu => by simp at ht
  | i + 1, _ :: _, [], e, h, ht, hu => by simp at hu
  | i + 1, a :: l, b :: m, e, h, ht, hu => by
    obtain ⟨e1, h2⟩ := h.tail
    subst e1
    have ih := compare_same (!e) h2 (by simpa using ht) (by simpa using hu)
    rw [compare_next, ih]
/-- with one at an even place, as the call begins -/
theorem order_diff {i : Nat} {t u : Row} (h : Alike i t u) (ht : i < t.length) (hu : i < u.length) (hne : t.getD i 0 ≠ u.getD i 0) :
    Kh306.compare true t u = if (t.getD i 0 < u.getD i 0 ↔ i % 2 = 0) then 1 else 2 := by
  rw [compare_diff true h ht hu hne]
  by_cases h2 : i % 2 = 0 <;> simp [h2]
theorem order_shorter {i : Nat} {t u : Row} (h : Alike i t u) (ht : i = t.length) (hu : i < u.length) : Kh306.compare true t u = if i % 2 = 0 then 2 else 1 := by
  rw [compare_shorter true h ht hu]
  by_cases h2 : i % 2 = 0 <;> simp [h2]
theorem order_longer {i : Nat} {t u : Row} (h : Alike i t u) (hu : i = u.length) (ht : i < t.length) : Kh306.compare true t u = if i % 2 = 0 then 1 else 2 := by
  rw [compare_longer true h hu ht]
  by_cases h2 : i % 2 = 0 <;> simp [h2]
theorem order_same {i : Nat} {t u : Row} (h : Alike i t u) (ht : i = t.length) (hu : i = u.length) : Kh306.compare true t u = 0 := compare_same true h ht hu
/-- best, by places -/
theorem best_ends : ∀ {i : Nat} {t u : Row}, Alike i t u → 0 < i → (i = t.length ∨ i = u.length) → best t u = t.take i
  | 0, _, _, _, h0, _ => by omega
  | i + 1, [], _, h, _, _ => by have := h.lt; simp at this
  | i + 1, _ :: _, [], h, _, _ => by have := h.lu; simp at this
  | i + 1, [a], b :: m, h, _, _ => by
    rw [best_one]
    simp
  | i + 1, a :: c :: l, b :: m, h, _, he => by
    obtain ⟨e1, h2⟩ := h.tail
    subst e1
    rw [best_cons, if_neg (by omega)]
    have h2' := h2
    cases i with
    | zero =>
      have : m = [] := by
        rcases he with he | he
        · simp at he
        · exact List.length_eq_zero_iff.1 (by simp only [List.length_cons] at he; omega)
      subst this
      rw [best]
      simp
    | succ i =>
      have ih := best_ends h2.symm (by omega) (by simpa [or_comm] using he)
      rw [ih, ← h2'.take]
      simp
theorem best_diff : ∀ {i : Nat} {t u : Row}, Alike i t u → i < t.length → i < u.length → t.getD i 0 ≠ u.getD i 0 → Kh306.compare true t u ≠ 2 →
    best t u = t.take i ++ [if t.getD i 0 < u.getD i 0 then (if t.length = i + 1 then t.getD i 0 else t.getD i 0 + 1) else (if u.length = i + 1 then u.getD i 0 else u.getD i 0 + 1)]
  | _, [], _, _, ht, _, _, _ => by simp at ht
  | _, _ :: _, [], _, _, hu, _, _ => by simp at hu
  | 0, a :: l, b :: m, h, _, _, hne, hc => by
    have hne' : a ≠ b := by simpa using hne
    have hab : a < b := by
      rw [Kh306.compare, if_neg hne'] at hc
      by_cases h1 : a < b
      · exact h1
      · simp [h1] at hc
    cases l with
    | nil =>
      rw [best_one]
      simp [hab]
    | cons c l =>
      rw [best_cons, if_pos hab]
      simp [hab]
  | i + 1, [a], b :: m, h, ht, _, _, _ => by simp at ht
  | i + 1, a :: c :: l, b :: m, h, ht, hu, hne, hc => by
    obtain ⟨e1, h2⟩ := h.tail
    subst e1
    have hc2 : Kh306.compare true m (c :: l) ≠ 2 := by
      rw [compare_next, compare_swap] at hc
      simpa using hc
    rw [best_cons, if_neg (by omega)]
    have ih := best_diff h2.symm (by simpa using hu) (by simpa using ht) (fun e => hne (by simpa using e.symm)) hc2
    rw [ih, ← h2.take]
    have hne2 : (c :: l).getD i 0 ≠ m.getD i 0 := fun e => hne (by simpa using e)
    simp only [List.getD_cons_succ, List.length_cons, List.take_succ_cons, List.cons_append, List.cons.injEq, true_and]
    congr 2
    by_cases h3 : (c :: l).getD i 0 < m.getD i 0
    · have h4 : ¬ m.getD i 0 < (c :: l).getD i 0 := by omega
      rw [if_pos h3, if_neg h4]
      simp
    · have h4 : m.getD i 0 < (c :: l).getD i 0 := by omega
      rw [if_neg h3, if_pos h4]
      simp
/-- the row of the simplest, by places -/
theorem pick_ends {i : Nat} {t u : Row} (h : Alike i t u) (h0 : 0 < i) (he : i = t.length ∨ i = u.length) : pick t u = t.take i := by
  cases t with
  | nil => have := h.lt; simp at this; omega
  | cons a l =>
    cases u with
    | nil => have := h.lu; simp at this; omega
    | cons b m =>
      cases i with
      | zero => omega
      | succ i =>
        have hb := best_ends h (by omega) he
        obtain ⟨e1, h2⟩ := h.tail
        subst e1
        rw [pick, if_neg (by omega)]
        cases l with
        | nil => simp
        | cons c l =>
          rw [best_cons, if_neg (by omega)] at hb
          simp only [reduceCtorEq, if_false]
          exact hb
theorem pick_diff {i : Nat} {t u : Row} (h : Alike i t u) (h0 : 0 < i) (ht : i < t.length) (hu : i < u.length) (hne : t.getD i 0 ≠ u.getD i 0) (hc : Kh306.compare true t u ≠ 2) :
    pick t u = t.take i ++ [if t.getD i 0 < u.getD i 0 then (if t.length = i + 1 then t.getD i 0 else t.getD i 0 + 1) else (if u.length = i + 1 then u.getD i 0 else u.getD i 0 + 1)] := by
  have hb := best_diff h ht hu hne hc
  cases t with
  | nil => simp at ht
  | cons a l =>
    cases u with
    | nil => simp at hu
    | cons b m =>
      cases i with
      | zero => omega
      | succ i =>
        obtain ⟨e1, h2⟩ := h.tail
        subst e1
        cases l with
        | nil => simp at ht
        | cons c l =>
          rw [best_cons, if_neg (by omega)] at hb
          rw [pick, if_neg (by omega)]
          simp only [reduceCtorEq, if_false]
          exact hb
theorem pick_first {t u : Row} (ht : 0 < t.length) (hu : 0 < u.length) (h : t.getD 0 0 < u.getD 0 0) :
    pick t u = if 0 ≤ t.getD 0 0 then (if t.length = 1 then [t.getD 0 0] else [t.getD 0 0 + 1]) else if 0 ≤ u.getD 0 0 then [0] else [u.getD 0 0] := by
  cases t with
  | nil => simp at ht
  | cons a l =>
    cases u with
    | nil => simp at hu
    | cons b m =>
      have h' : a < b := by simpa using h
      rw [pick, if_pos h']
      simp
/-- the order, by the values -/
theorem order_values {t u : Row} (ht : ok t = true) (hu : ok u = true) :
    Kh306.compare true t u = if (value t).over * (value u).under < (value u).over * (value t).under then 1 else if (value u).over * (value t).under < (value t).over * (value u).under then 2 else 0 := by
  cases t with
  | nil => simp [ok] at ht
  | cons a l =>
    cases u with
    | nil => simp [ok] at hu
    | cons b m =>
      obtain ⟨_, _, l1, l2⟩ := ok_cons.1 ht
      obtain ⟨_, _, m1, m2⟩ := ok_cons.1 hu
      have h := cmp_lt (a := a) (b := b) (okT_of _ l1) (okT_of _ m1)
      rw [h]
theorem under_pos_ok {t : Row} (ht : ok t = true) : 0 < (value t).under := by
  cases t with
  | nil => simp [ok] at ht
  | cons a l =>
    obtain ⟨_, _, l1, l2⟩ := ok_cons.1 ht
    exact under_pos a l (okT_of _ l1)
end Rw
set_option Elab.async false
namespace Rw
open Kh306
/-- how many places both have alike -/
def alikeN : Row → Row → Nat
  | a :: l, b :: m => if a = b then alikeN l m + 1 else 0
  | _, _ => 0
theorem alikeN_alike : ∀ (t u : Row), Alike (alikeN t u) t u
  | [], _ => by simp only [alikeN]; exact Alike.zero _ _
  | _ :: _, [] => by simp only [alikeN]; exact Alike.zero _ _
  | a :: l, b :: m => by
    rw [alikeN]
    by_cases h : a = b
    · rw [if_pos h]
      have ih := alikeN_alike l m
      refine ⟨by simpa using ih.lt, by simpa using ih.lu, ?_⟩
      intro j hj
      cases j with
      | zero => simpa using h
      | succ j => simpa using ih.same j (by omega)
    · rw [if_neg h]
      exact Alike.zero _ _
theorem alikeN_eq : ∀ {i : Nat} {t u : Row}, Alike i t u → (i = t.length ∨ i = u.length ∨ t.getD i 0 ≠ u.getD i 0) → alikeN t u = i
  | 0, [], _, _, _ => by simp [alikeN]
  | 0, _ :: _, [], _, _ => by simp [alikeN]
  | 0, a :: l, b :: m, _, h => by
    have : a ≠ b := by simpa using h
    simp [alikeN, this]
  | i + 1, [], _, h, _ => by have := h.lt; simp at this
  | i + 1, _ :: _, [], h, _ => by have := h.lu; simp at this
  | i + 1, a :: l, b :: m, h, he => by
    obtain ⟨e, h2⟩ := h.tail
    rw [alikeN, if_pos e, alikeN_eq h2 (by simpa using he)]
theorem alikeN_end (t u : Row) : alikeN t u = t.length ∨ alikeN t u = u.length ∨ (alikeN t u < t.length ∧ alikeN t u < u.length ∧ t.getD (alikeN t u) 0 ≠ u.getD (alikeN t u) 0) := by
  have h := alikeN_alike t u
  have h1 := h.lt
  have h2 := h.lu
  by_cases e1 : alikeN t u = t.length
  · exact Or.inl e1
  · by_cases e2 : alikeN t u = u.length
    · exact Or.inr (Or.inl e2)
    · refine Or.inr (Or.inr ⟨by omega, by omega, fun e => ?_⟩)
      have h3 := h.next (by omega) (by omega) e
      have gen : ∀ (t u : Row) (k : Nat), Alike k t u → k ≤ alikeN t u := by
        intro t
        induction t with
        | nil => intro u k hk; have := hk.lt; simp at this; omega
        | cons a l ih =>
          intro u k hk
          cases u with
          | nil => have := hk.lu; simp at this; omega
          | cons b m =>
            cases k with
            | zero => omega
            | succ k =>
              obtain ⟨e, h2⟩ := hk.tail
              have := ih m k h2
              rw [alikeN, if_pos e]
              omega
      have := gen t u _ h3
      omega
end Rw
namespace Rw
open Kh306
theorem not_ok {t : Row} (h : ¬ Good t) : false = ok t := by
  cases e : ok t with
  | false => rfl
  | true => exact absurd ((ok_iff t).1 e) h
theorem bad_len {t : Row} (h : t.length < 1 ∨ 96 < t.length) : false = ok t :=
  not_ok fun g => by
    have h1 := g.pos
    have h2 := g.len
    omega
theorem bad_first {t : Row} (h0 : 0 < t.length) (h : t.getD 0 0 < -4611686018427387904 ∨ 4611686018427387904 < t.getD 0 0) : false = ok t :=
  not_ok fun g => by
    have h1 := g.size 0 h0
    omega
theorem mem_tail {t : Row} {n : Int} (hn : n ∈ t.drop 1) : ∃ i, 0 < i ∧ i < t.length ∧ t.getD i 0 = n := by
  obtain ⟨i, hi, e⟩ := List.getElem_of_mem hn
  simp at hi e
  refine ⟨i + 1, by omega, by omega, ?_⟩
  have h2 : i + 1 < t.length := by omega
  have e3 : t.getD (i + 1) 0 = t[i + 1] := by simp [h2]
  rw [e3, ← e]
theorem bad_item {t : Row} {n : Int} (hn : n ∈ t.drop 1) (h : n < 1 ∨ 4611686018427387904 < n) : false = ok t :=
  not_ok fun g => by
    obtain ⟨i, h1, h2, h3⟩ := mem_tail hn
    have h4 := g.size i h2
    have h5 := g.up i h1 h2
    omega
theorem good_all {t : Row} (h0 : 0 < t.length) (h1 : t.length ≤ 96) (h2 : -4611686018427387904 ≤ t.getD 0 0) (h3 : t.getD 0 0 ≤ 4611686018427387904) (h4 : ∀ v ∈ t.drop 1, 1 ≤ v ∧ v ≤ 4611686018427387904)
    (h5 : 1 < t.length → 2 ≤ t.getD (t.length - 1) 0) : true = ok t := by
  have item : ∀ i : Nat, 0 < i → i < t.length → 1 ≤ t.getD i 0 ∧ t.getD i 0 ≤ 4611686018427387904 := by
    intro i hi hlt
    refine h4 _ ?_
    have e3 : t.getD i 0 = t[i] := by simp [hlt]
    rw [e3, List.mem_iff_getElem]
    refine ⟨i - 1, by simp; omega, ?_⟩
    rw [List.getElem_drop]
    congr 1
    omega
  refine ((ok_iff t).2 ⟨h0, h1, ?_, fun i hi hlt => (item i hi hlt).1, h5⟩).symm
  intro i hi
  by_cases e : i = 0
  · rw [e]
    exact ⟨h2, h3⟩
  · have := item i (by omega) hi
    omega
theorem bad_last {t : Row} (h : 1 < t.length) (h2 : t.getD (t.length - 1) 0 < 2) : false = ok t :=
  not_ok fun g => by
    have h1 := g.last h
    omega
theorem tree_first {t : Row} (h0 : 0 < t.length) (h : t.getD (Int.toNat 0) 0 < -4611686018427387904 ∨ 4611686018427387904 < t.getD (Int.toNat 0) 0) : false = ok t := bad_first h0 h
theorem at_end (t : Row) : (-1 + (t.length : Int)).toNat = t.length - 1 := by omega
theorem tree_bad_last {t : Row} (h : 1 < t.length) (h2 : t.getD (-1 + (t.length : Int)).toNat 0 < 2) : false = ok t := by
  rw [at_end] at h2
  exact bad_last h h2
theorem tree_good {t : Row} (h4 : ∀ v ∈ t.drop 1, 1 ≤ v ∧ v ≤ 4611686018427387904) (h0 : 0 < t.length) (h1 : t.length ≤ 96) (h2 : -4611686018427387904 ≤ t.getD (Int.toNat 0) 0) (h3 : t.getD (Int.toNat 0) 0 ≤ 4611686018427387904)
    (h5 : 1 < t.length → 2 ≤ t.getD (-1 + (t.length : Int)).toNat 0) : true = ok t := by
  rw [at_end] at h5
  exact good_all h0 h1 h2 h3 h4 h5
theorem tree_one {t : Row} (h4 : ∀ v ∈ t.drop 1, 1 ≤ v ∧ v ≤ 4611686018427387904) (h0 : (t.length : Int) = 1) (h2 : -4611686018427387904 ≤ t.getD (Int.toNat 0) 0) (h3 : t.getD (Int.toNat 0) 0 ≤ 4611686018427387904) : ((t.length : Int) == 1) = ok t := by
  rw [← good_all (by omega) (by omega) h2 h3 h4 (by omega)]
  simp [h0]
theorem tree_last {t : Row} (h4 : ∀ v ∈ t.drop 1, 1 ≤ v ∧ v ≤ 4611686018427387904) (h0 : 1 < t.length) (h1 : t.length ≤ 96) (h2 : -4611686018427387904 ≤ t.getD (Int.toNat 0) 0) (h3 : t.getD (Int.toNat 0) 0 ≤ 4611686018427387904) :
    decide (1 < t.getD (-1 + (t.length : Int)).toNat 0) = ok t := by
  have e : (-1 + (t.length : Int)).toNat = t.length - 1 := by omega
  rw [e]
  by_cases h : 1 < t.getD (t.length - 1) 0
  · rw [← good_all (by omega) h1 h2 h3 h4 (by omega)]
    simpa using h
  · rw [← bad_last h0 (by omega)]
    simpa using h
end Rw
namespace My
def al (t u : List Int) : Int := ((Rw.alikeN t u : Nat) : Int)
structure Al (t u : List Int) (place : Int) : Prop where
  al : Rw.Alike place.toNat t u
theorem al_start {t u : List Int} : 0 ≤ (0 : Int) ∧ (0 : Int) ≤ (t.length : Int) ∧ (0 : Int) ≤ (u.length : Int) ∧ Al t u 0 := ⟨by omega, by omega, by omega, ⟨Rw.Alike.zero t u⟩⟩
theorem al_turn {t u : List Int} {p : Int} (h : Al t u p) (e : t.getD p.toNat 0 = u.getD p.toNat 0) (h0 : 0 ≤ p) (h1 : p < (t.length : Int)) (h2 : p < (u.length : Int)) :
    0 ≤ p + 1 ∧ p + 1 ≤ (t.length : Int) ∧ p + 1 ≤ (u.length : Int) ∧ Al t u (p + 1) := by
  refine ⟨by omega, by omega, by omega, ⟨?_⟩⟩
  have e2 : (p + 1).toNat = p.toNat + 1 := by omega
  rw [e2]
  exact h.al.next (by omega) (by omega) e
structure Fin (t u : List Int) (p : Int) : Prop where
  al : Rw.Alike p.toNat t u
  fin : p = (t.length : Int) ∨ p = (u.length : Int) ∨ t.getD p.toNat 0 ≠ u.getD p.toNat 0
theorem al_facts {t u : List Int} {q : Int} (h : al t u = q) : 0 ≤ q ∧ q ≤ (t.length : Int) ∧ q ≤ (u.length : Int) ∧ Fin t u q := by
  have h1 := Rw.alikeN_alike t u
  have h2 := Rw.alikeN_end t u
  have h3 := h1.lt
  have h4 := h1.lu
  have e : q.toNat = Rw.alikeN t u := by unfold al at h; omega
  unfold al at h
  refine ⟨by omega, by omega, by omega, ⟨by rw [e]; exact h1, ?_⟩⟩
  rw [e]
  rcases h2 with h2 | h2 | h2
  · exact Or.inl (by omega)
  · exact Or.inr (Or.inl (by omega))
  · exact Or.inr (Or.inr h2.2.2)
def ord (t u : List Int) : Int := ((Kh306.compare true t u : Nat) : Int)
theorem ord_same {t u : List Int} {p : Int} (h : Fin t u p) (h0 : 0 ≤ p) (h1 : p = (t.length : Int)) (h2 : p = (u.length : Int)) : 0 = ord t u := by
  unfold ord
  rw [Rw.order_same h.al (by omega) (by omega)]
  rfl
theorem ord_short1 {t u : List Int} {p : Int} (h : Fin t u p) (h0 : 0 ≤ p) (h1 : p = (t.length : Int)) (h2 : p < (u.length : Int)) (h3 : p % 2 = 1) : 1 = ord t u := by
  unfold ord
  rw [Rw.order_shorter h.al (by omega) (by omega), if_neg (by omega)]
  rfl
theorem ord_short2 {t u : List Int} {p : Int} (h : Fin t u p) (h0 : 0 ≤ p) (h1 : p = (t.length : Int)) (h2 : p < (u.length : Int)) (h3 : p % 2 = 0) : 2 = ord t u := by
  unfold ord
  rw [Rw.order_shorter h.al (by omega) (by omega), if_pos (by omega)]
  rfl
theorem al_done {t u : List Int} {p : Int} (h : Al t u p) (h0 : 0 ≤ p) (he : p = (t.length : Int) ∨ p = (u.length : Int) ∨ t.getD p.toNat 0 ≠ u.getD p.toNat 0) : p = al t u := by
  have := Rw.alikeN_eq h.al (by omega)
  unfold al
  omega
end My
namespace My
theorem ord_code {t u : List Int} {p : Int} (h : Fin t u p) (h0 : 0 ≤ p) (hn : ¬ (p = (t.length : Int) ∧ p = (u.length : Int))) :
    ord t u = if ((p = (u.length : Int) ∨ (p < (t.length : Int) ∧ t.getD p.toNat 0 < u.getD p.toNat 0)) ↔ p % 2 = 0) then 1 else 2 := by
  unfold ord
  have l1 := h.al.lt
  have l2 := h.al.lu
  have l3 := h.fin
  have e2 : (p % 2 = 0) ↔ (p.toNat % 2 = 0) := by omega
  by_cases ht : p = (t.length : Int)
  · rw [Rw.order_shorter h.al (by omega) (by omega)]
    by_cases hp : p.toNat % 2 = 0
    · rw [if_pos hp, if_neg (by omega)]; rfl
    · rw [if_neg hp, if_pos (by omega)]; rfl
  · by_cases hu : p = (u.length : Int)
    · rw [Rw.order_longer h.al (by omega) (by omega)]
      by_cases hp : p.toNat % 2 = 0
      · rw [if_pos hp, if_pos (by omega)]; rfl
      · rw [if_neg hp, if_neg (by omega)]; rfl
    · rw [Rw.order_diff h.al (by omega) (by omega) (by omega)]
      by_cases hp : (t.getD p.toNat 0 < u.getD p.toNat 0 ↔ p.toNat % 2 = 0)
      · rw [if_pos hp, if_pos (by omega)]; rfl
      · rw [if_neg hp, if_neg (by omega)]; rfl
theorem fmod_two (p : Int) : p.fmod 2 = p % 2 := Int.fmod_eq_emod_of_nonneg p (by decide)
theorem ord_one {t u : List Int} {p : Int} {b : Bool} (h : Fin t u p) (h0 : 0 ≤ p) (hn : ¬ (p = (t.length : Int) ∧ p = (u.length : Int))) (hb : b = true ↔ (p = (u.length : Int) ∨ (p < (t.length : Int) ∧ t.getD p.toNat 0 < u.getD p.toNat 0)))
    (e : (b == (p.fmod 2 == 0)) = true) : 1 = ord t u := by
  have e' : b = (p.fmod 2 == 0) := eq_of_beq e
  rw [ord_code h h0 hn, if_pos]
  rw [← hb, e', fmod_two]
  exact beq_iff_eq
theorem ord_two {t u : List Int} {p : Int} {b : Bool} (h : Fin t u p) (h0 : 0 ≤ p) (hn : ¬ (p = (t.length : Int) ∧ p = (u.length : Int))) (hb : b = true ↔ (p = (u.length : Int) ∨ (p < (t.length : Int) ∧ t.getD p.toNat 0 < u.getD p.toNat 0)))
    (e : (b == (p.fmod 2 == 0)) = false) : 2 = ord t u := by
  have e' : b ≠ (p.fmod 2 == 0) := ne_of_beq_false e
  rw [ord_code h h0 hn, if_neg]
  rw [← hb]
  intro h'
  apply e'
  rw [fmod_two]
  rw [Bool.eq_iff_iff, h']
  exact beq_iff_eq.symm
theorem ord_sh1 {t u : List Int} {p : Int} (h : Fin t u p) (e : (decide (p < (t.length : Int)) == (p.fmod 2 == 0)) = true) (h0 : 0 ≤ p) (h1 : p = (t.length : Int)) (h2 : p ≠ (u.length : Int)) : 1 = ord t u :=
  ord_one h h0 (by omega) (by rw [decide_eq_true_iff]; omega) e
theorem ord_sh2 {t u : List Int} {p : Int} (h : Fin t u p) (e : (decide (p < (t.length : Int)) == (p.fmod 2 == 0)) = false) (h0 : 0 ≤ p) (h1 : p = (t.length : Int)) (h2 : p ≠ (u.length : Int)) : 2 = ord t u :=
  ord_two h h0 (by omega) (by rw [decide_eq_true_iff]; omega) e
theorem ord_lo1 {t u : List Int} {p : Int} (h : Fin t u p) (e : ((p == (u.length : Int)) == (p.fmod 2 == 0)) = true) (h0 : 0 ≤ p) (h1 : p ≠ (t.length : Int)) (h2 : p = (u.length : Int)) : 1 = ord t u :=
  ord_one h h0 (by omega) (by rw [beq_iff_eq]; omega) e
theorem ord_lo2 {t u : List Int} {p : Int} (h : Fin t u p) (e : ((p == (u.length : Int)) == (p.fmod 2 == 0)) = false) (h0 : 0 ≤ p) (h1 : p ≠ (t.length : Int)) (h2 : p = (u.length : Int)) : 2 = ord t u :=
  ord_two h h0 (by omega) (by rw [beq_iff_eq]; omega) e
theorem ord_di1 {t u : List Int} {p : Int} (h : Fin t u p) (e : (decide (t.getD p.toNat 0 < u.getD p.toNat 0) == (p.fmod 2 == 0)) = true) (h0 : 0 ≤ p) (h1 : p ≠ (t.length : Int)) (h2 : p ≠ (u.length : Int)) : 1 = ord t u :=
  ord_one h h0 (by omega) (by rw [decide_eq_true_iff]; have := h.al.lt; omega) e
theorem ord_di2 {t u : List Int} {p : Int} (h : Fin t u p) (e : (decide (t.getD p.toNat 0 < u.getD p.toNat 0) == (p.fmod 2 == 0)) = false) (h0 : 0 ≤ p) (h1 : p ≠ (t.length : Int)) (h2 : p ≠ (u.length : Int)) : 2 = ord t u :=
  ord_two h h0 (by omega) (by rw [decide_eq_true_iff]; have := h.al.lt; omega) e
theorem pick_alike {t u : List Int} {p : Int} (h : Fin t u p) (ht : true = Kh306.ok t) (hu : true = Kh306.ok u) (h0 : 0 ≤ p) (he : p = (t.length : Int) ∨ p = (u.length : Int)) :
    Rw.pick t u = t.take p.toNat := by
  have g1 := ((Rw.ok_iff t).1 ht.symm).pos
  have g2 := ((Rw.ok_iff u).1 hu.symm).pos
  exact Rw.pick_ends h.al (by omega) (by omega)
theorem pick_code {t u : List Int} {p v : Int} (h : Fin t u p) (ht : true = Kh306.ok t) (hu : true = Kh306.ok u) (hc : ord t u ≠ 2) (h0 : 0 ≤ p) (h1 : p < (t.length : Int)) (h2 : p < (u.length : Int))
    (hv : v = max (if u.getD p.toNat 0 < t.getD p.toNat 0 then (if p + 1 < (u.length : Int) then u.getD p.toNat 0 + 1 else u.getD p.toNat 0) else (if p + 1 < (t.length : Int) then t.getD p.toNat 0 + 1 else t.getD p.toNat 0)) (min 0 (max (t.getD p.toNat 0) (u.getD p.toNat 0)))) :
    Rw.pick t u = t.take p.toNat ++ [v] := by
  have g1 := (Rw.ok_iff t).1 ht.symm
  have g2 := (Rw.ok_iff u).1 hu.symm
  have l3 := h.fin
  have hc' : Kh306.compare true t u ≠ 2 := by
    intro e
    unfold ord at hc
    omega
  by_cases hp : p = 0
  · subst hp
    have e0 : (0 : Int).toNat = 0 := rfl
    rw [e0] at hv l3 ⊢
    have h3 : t.getD 0 0 < u.getD 0 0 := by
      by_cases h3 : t.getD 0 0 < u.getD 0 0
      · exact h3
      · exfalso
        apply hc'
        have := Rw.order_diff h.al (by omega) (by omega) (by rw [e0]; omega)
        rw [e0] at this
        rw [this, if_neg (by omega)]
    rw [Rw.pick_first (by omega) (by omega) h3, List.take_zero, List.nil_append]
    generalize t.getD 0 0 = a at *
    generalize u.getD 0 0 = b at *
    have e : ∀ x y : Int, x = y → [x] = [y] := fun x y e => by rw [e]
    split
    · split
      · exact e _ _ (by omega)
      · exact e _ _ (by omega)
    · split
      · exact e _ _ (by omega)
      · exact e _ _ (by omega)
  · rw [Rw.pick_diff h.al (by omega) (by omega) (by omega) (by omega) hc']
    have u1 := g1.up p.toNat (by omega) (by omega)
    have u2 := g2.up p.toNat (by omega) (by omega)
    congr 2
    generalize t.getD p.toNat 0 = a at *
    generalize u.getD p.toNat 0 = b at *
    split <;> split <;> omega
end My
namespace My
section
variable {prog : Program} {w : World} {A : Around} {E : Value → Shared → Prop} {Q : Flow → Shared → Prop} {s : Shared} {env : Env} {h₀ h₁ h₂ : Heap} {L : Addr}
theorem while_rule {test : PySem.Expr} {body : List Stmt} {pos : Pos} {m₀ : Str → Option Value} {news : List (Addr × Obj)} {y yt yu : Str} {p₀ : Int} {t₀ : Tok} {vs ws : List Value} {t u : List Int} {lt lu : Addr} (stored : List Str) (P : List Int → List Int → Int → Prop) (μ : List Int → List Int → Int → Nat)
    (F : Fr h₀ L s.heap m₀) (N : News h₀ L s.heap news) (_e1 : m₀ yt = some (.ref lt)) (_e2 : m₀ yu = some (.ref lu)) (_l1 : h₁.IsList lt vs.toArray) (_l2 : h₂.IsList lu ws.toArray) (_i1 : IntsAre vs t) (_i2 : IntsAre ws u) (e3 : m₀ y = some (.int p₀ t₀)) (hp : P t u p₀)
    (turn : ∀ (p : Int) (tp : Tok) (o : Str → Option Value) (h : Heap) (tk : Nat), P t u p → Fr h₀ L h (fun z => if z = y then some (.int p tp) else if stored.contains z then o z else m₀ z) → News h₀ L h news →
      wpAny (model prog w) A (isTrue test env (eval test env)) (fun b s₂ =>
        if b = true then wpAny (model prog w) A (execs body env) (KswPost h₀ L s (fun _ : Int × Tok => news) (fun c => [(y, .int c.1 c.2)]) (fun _ => True) stored m₀ (fun c => P t u c.1) (fun c => μ t u c.1) Q (p, tp)) E s₂ else Q .next s₂) E { s with heap := h, toks := tk })
    (hE : PassesOwn (model prog w) A env E := by passes_own) :
    wpAny (model prog w) A (exec (.While test body [] pos) env) Q E s :=
  ksw_while (fun _ : Int × Tok => news) (fun c => [(y, .int c.1 c.2)]) (fun _ => True) stored (fun c => P t u c.1) (fun c => μ t u c.1) (p₀, t₀) F N trivial (fun p hp => by rw [List.mem_singleton.mp hp]; exact e3) hp
    (fun c o h tk _ hp F' N' => turn c.1 c.2 o h tk hp F' N') hE
end
end My
local macro_rules | `(tactic| walk_at "exec While BoolOp cons nil") => `(tactic| (k_here; (rename Fr _ _ _ _ => lF'); (rename News _ _ _ _ => lN'); (with_unfolding_all refine' My.while_rule (y := Str.ofString "place") (yt := Str.ofString "t") (yu := Str.ofString "u") [] (fun t u p => 0 ≤ p ∧ p ≤ (t.length : Int) ∧ p ≤ (u.length : Int) ∧ My.Al t u p) (fun t u p => ((t.length : Int) - p).toNat) lF' lN' (by rfl) (by rfl) (by with_reducible assumption) (by with_reducible assumption) (by with_reducible assumption) (by with_reducible assumption) (by rfl) My.al_start (fun p' tp' o' h' tk' kInv F' N' => ?_)); (try clear lF' lN'); (have kMark := kstMark); (obtain ⟨kI1, kI2, kI3, kI4⟩ := kInv); (try k_fold)))
local macro_rules | `(tactic| l_fit) => `(tactic| (exact Nat.lt_of_le_of_lt (len_ints_list (by with_reducible assumption)) (by decide)))
namespace My
theorem al_again {t u : List Int} {p q : Int} (h1 : al t u = p) (h2 : al t u = q) : q = p := h2.symm.trans h1
theorem said : PySem.Challenge.rw_quotientrows_s04_simplest.wellSaid = true := by decide +kernel
theorem post_list {ns ms : List Int} (h : PySem.Challenge.rw_quotientrows_s04_simplest.pre [ofPy (PyData.list (List.map PyData.int ns)), ofPy (PyData.list (List.map PyData.int ms))] = true) {d : WData} (e : d = WData.list ((PyKh306.simplest ns ms).map WData.int)) :
    PySem.Challenge.rw_quotientrows_s04_simplest.post [ofPy (PyData.list (List.map PyData.int ns)), ofPy (PyData.list (List.map PyData.int ms))] d = true := by
  obtain ⟨a, w, _, ea⟩ := os_pre said h
  obtain ⟨ns', ms', u⟩ := a
  have e1 := os_j_ints (List.cons.inj ea).1
  have e2 := os_j_ints (List.cons.inj (List.cons.inj ea).2).1
  rw [ea]
  refine os_shut said w ?_
  rw [e, e1, e2]
  rfl
theorem end_bad {t u : List Int} (h : Kh306.ok t = false ∨ Kh306.ok u = false) : ofPy (PyData.list [PyData.int (-22)]) = WData.list ((PyKh306.simplest t u).map WData.int) := by
  rw [Rw.simplest_spec, if_pos h]
  exact os_list rfl
theorem end_round {t u : List Int} (ht : Kh306.ok t = true) (hu : Kh306.ok u = true) (h : 2 = My.ord t u) : ofPy (PyData.list [PyData.int (-33)]) = WData.list ((PyKh306.simplest t u).map WData.int) := by
  have h' : Kh306.compare true t u = 2 := by
    unfold My.ord at h
    omega
  rw [Rw.simplest_spec, if_neg (by rw [ht, hu]; decide), if_pos h']
  exact os_list rfl
theorem spec_good {t u r : List Int} {v : Int} (ht : Kh306.ok t = true) (hu : Kh306.ok u = true) (hv : v = My.ord t u) (h : v ≠ 2) (hr : Rw.pick t u = r) : PyKh306.simplest t u = (r.length : Int) :: r := by
  have h' : Kh306.compare true t u ≠ 2 := by
    intro e
    unfold My.ord at hv
    omega
  rw [Rw.simplest_spec, if_neg (by rw [ht, hu]; decide), if_neg h', hr]
theorem end_alike {t u : List Int} {p v : Int} (F : My.Fin t u p) (ht : Kh306.ok t = true) (hu : Kh306.ok u = true) (hv : v = My.ord t u) (h : v ≠ 2) (h0 : 0 ≤ p) (he : p = (t.length : Int) ∨ p = (u.length : Int)) :
    WData.list (ofPys (List.map PyData.int ([((List.take p.toNat t).length : Int)] ++ List.take p.toNat t))) = WData.list ((PyKh306.simplest t u).map WData.int) := by
  rw [spec_good ht hu hv h (My.pick_alike F ht.symm hu.symm h0 he), os_ofPys_ints]
  rfl
theorem most_least (a b c : Int) : (if (if (if b > a then b else a) < 0 then (if b > a then b else a) else 0) > c then (if (if b > a then b else a) < 0 then (if b > a then b else a) else 0) else c) = max c (min 0 (max a b)) := by
  by_cases h1 : b > a
  · rw [if_pos h1]
    by_cases h2 : b < 0
    · rw [if_pos h2]
      by_cases h3 : b > c
      · rw [if_pos h3]; omega
      · rw [if_neg h3]; omega
    · rw [if_neg h2]
      by_cases h3 : 0 > c
      · rw [if_pos h3]; omega
      · rw [if_neg h3]; omega
  · rw [if_neg h1]
    by_cases h2 : a < 0
    · rw [if_pos h2]
      by_cases h3 : a > c
      · rw [if_pos h3]; omega
      · rw [if_neg h3]; omega
    · rw [if_neg h2]
      by_cases h3 : 0 > c
      · rw [if_pos h3]; omega
      · rw [if_neg h3]; omega
theorem end_one {t u : List Int} {p v c : Int} (F : My.Fin t u p) (ht : Kh306.ok t = true) (hu : Kh306.ok u = true) (hv : v = My.ord t u) (h : v ≠ 2) (h0 : 0 ≤ p) (h1 : p < (t.length : Int)) (h2 : p < (u.length : Int))
    (hc : c = if u.getD p.toNat 0 < t.getD p.toNat 0 then (if p + 1 < (u.length : Int) then u.getD p.toNat 0 + 1 else u.getD p.toNat 0) else (if p + 1 < (t.length : Int) then t.getD p.toNat 0 + 1 else t.getD p.toNat 0)) :
    WData.list (ofPys (List.map PyData.int ([(((List.take p.toNat t).length + 1 : Nat) : Int)] ++ (List.take p.toNat t ++ [if (if (if u.getD p.toNat 0 > t.getD p.toNat 0 then u.getD p.toNat 0 else t.getD p.toNat 0) < 0 then (if u.getD p.toNat 0 > t.getD p.toNat 0 then u.getD p.toNat 0 else t.getD p.toNat 0) else 0) > c then (if (if u.getD p.toNat 0 > t.getD p.toNat 0 then u.getD p.toNat 0 else t.getD p.toNat 0) < 0 then (if u.getD p.toNat 0 > t.getD p.toNat 0 then u.getD p.toNat 0 else t.getD p.toNat 0) else 0) else c])))) = WData.list ((PyKh306.simplest t u).map WData.int) := by
  rw [most_least, spec_good ht hu hv h (My.pick_code F ht.symm hu.symm (by rw [← hv]; exact h) h0 h1 h2 (by rw [← hc])), os_ofPys_ints, List.length_append]
  rfl
end My
set_option maxRecDepth 100000 in
set_option maxHeartbeats 8000000 in
theorem PySem.Challenge.cw_quotientrows_s04_simplest_holds : PySem.Challenge.rw_quotientrows_s04_simplest.Holds := by
  k_with "pyIter ref" => (k_of "quotient" => k_search (fun pre => ∀ v ∈ pre, 1 ≤ v ∧ v ≤ 4611686018427387904))
  k_with "call ref" => first | k_call_by "is_row" Kh306.ok | ((k_call_by "alike" My.al); (first | ((rename My.al _ _ = _ => hq0); (generalize hq5 : My.al _ _ = q5); (have hq6 := My.al_again hq0 hq5); (subst hq6); (clear hq5)) | ((generalize hq : My.al _ _ = q); (obtain ⟨q1, q2, q3, q4⟩ := My.al_facts hq))))
  k_with "state" => (exact My.al_turn (by with_reducible assumption) (by with_reducible assumption) (by omega) (by omega) (by omega))
  k_with "measure" => omega
  k_with "tree" => first | (exact Rw.bad_len (by omega)) | (exact Rw.tree_first (by omega) (by omega)) | (exact Rw.bad_item (by with_reducible assumption) (by omega)) | (exact Rw.tree_one (by with_reducible assumption) (by omega) (by omega) (by omega)) | (exact Rw.tree_last (by with_reducible assumption) (by omega) (by omega) (by omega) (by omega)) | (exact My.al_done (by with_reducible assumption) (by omega) (by omega))
  open_ks with [.list [], .list []]
  · exact My.post_list hpre (My.end_alike (by with_reducible assumption) (by with_reducible assumption) (by with_reducible assumption) (My.ord_same (by with_reducible assumption) (by omega) (by omega) (by omega)) (by decide) (by omega) (by omega))
  · exfalso
    omega
  · exact My.post_list hpre (My.end_alike (by with_reducible assumption) (by with_reducible assumption) (by with_reducible assumption) (My.ord_sh1 (by with_reducible assumption) (by with_reducible assumption) (by omega) (by omega) (by omega)) (by decide) (by omega) (by omega))
  · exact My.post_list hpre (My.end_round (by with_reducible assumption) (by with_reducible assumption) (My.ord_sh2 (by with_reducible assumption) (by with_reducible assumption) (by omega) (by omega) (by omega)))
  · exact My.post_list hpre (My.end_alike (by with_reducible assumption) (by with_reducible assumption) (by with_reducible assumption) (My.ord_lo1 (by with_reducible assumption) (by with_reducible assumption) (by omega) (by omega) (by omega)) (by decide) (by omega) (by omega))
  · exact My.post_list hpre (My.end_round (by with_reducible assumption) (by with_reducible assumption) (My.ord_lo2 (by with_reducible assumption) (by with_reducible assumption) (by omega) (by omega) (by omega)))
  · exact My.post_list hpre (My.end_one (by with_reducible assumption) (by with_reducible assumption) (by with_reducible assumption) (My.ord_di1 (by with_reducible assumption) (by with_reducible assumption) (by omega) (by omega) (by omega)) (by decide) (by omega) (by omega) (by omega) (by rw [if_pos (by with_reducible assumption), if_pos (by with_reducible assumption)]))
  · exact My.post_list hpre (My.end_one (by with_reducible assumption) (by with_reducible assumption) (by with_reducible assumption) (My.ord_di1 (by with_reducible assumption) (by with_reducible assumption) (by omega) (by omega) (by omega)) (by decide) (by omega) (by omega) (by omega) (by rw [if_pos (by with_reducible assumption), if_neg (by with_reducible assumption)]))
  · exact My.post_list hpre (My.end_one (by with_reducible assumption) (by with_reducible assumption) (by with_reducible assumption) (My.ord_di1 (by with_reducible assumption) (by with_reducible assumption) (by omega) (by omega) (by omega)) (by decide) (by omega) (by omega) (by omega) (by rw [if_neg (by with_reducible assumption), if_pos (by with_reducible assumption)]))
  · exact My.post_list hpre (My.end_one (by with_reducible assumption) (by with_reducible assumption) (by with_reducible assumption) (My.ord_di1 (by with_reducible assumption) (by with_reducible assumption) (by omega) (by omega) (by omega)) (by decide) (by omega) (by omega) (by omega) (by rw [if_neg (by with_reducible assumption), if_neg (by with_reducible assumption)]))
  · exact My.post_list hpre (My.end_round (by with_reducible assumption) (by with_reducible assumption) (My.ord_di2 (by with_reducible assumption) (by with_reducible assumption) (by omega) (by omega) (by omega)))
  · exact My.post_list hpre (My.end_bad (Or.inr (by with_reducible assumption)))
  · exact My.post_list hpre (My.end_bad (Or.inl (by with_reducible assumption)))
#print axioms PySem.Challenge.cw_quotientrows_s04_simplest_holds
