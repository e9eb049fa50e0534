import PyProof.Rows.All
import Wide.All
import OpenK.AllK
import Wide.FinOn
import KE.OsGo
import KE.OsArgs
import PySem.Challenge.RW_quotientrows_s01_of
set_option Elab.async false
open PySem PySem.W PyProof.Rows
namespace My
def fib : Nat → Nat × Nat
  | 0 => (0, 1)
  | n + 1 => ((fib n).2, (fib n).1 + (fib n).2)
def F (n : Nat) : Int := ((fib n).1 : Nat)
theorem F_rec (n : Nat) : F (n + 2) = F n + F (n + 1) := by
  simp only [F, fib]
  omega
theorem F_one : F 1 = 1 := rfl
theorem F_two : F 2 = 1 := rfl
/-- k turns are enough from (u, l). -/
structure Enough (k : Nat) (u l : Int) : Prop where
  nn : 0 ≤ l
  lt : l < F (k + 1) ∨ (l < u ∧ u < F (k + 2))
theorem Enough.pos {k : Nat} {u l : Int} (h : Enough k u l) (hl : 0 < l) : ∃ j, k = j + 1 := by
  cases k with
  | zero =>
    have h1 := h.lt
    have e1 : F (0 + 1) = 1 := rfl
    have e2 : F (0 + 2) = 1 := rfl
    rw [e1, e2] at h1
    omega
  | succ j => exact ⟨j, rfl⟩
theorem Enough.step {k : Nat} {u l : Int} (h : Enough (k + 1) u l) (hl : 0 < l) : Enough k l (u % l) := by
  have r0 := Int.emod_nonneg u (show l ≠ 0 by omega)
  have r1 := Int.emod_lt_of_pos u hl
  refine ⟨r0, ?_⟩
  have f := F_rec (k + 1)
  have e : k + 1 + 2 = k + 3 := rfl
  have e2 : k + 1 + 1 = k + 2 := rfl
  rw [e, e2] at f
  have h1 := h.lt
  rw [e, e2] at h1
  by_cases hc : l < F (k + 2)
  · right
    exact ⟨r1, hc⟩
  · left
    have h2 : l < u ∧ u < F (k + 3) := by
      rcases h1 with h1 | h1
      · exact absurd h1 hc
      · exact h1
    have d : l * (u / l) + u % l = u := Int.mul_ediv_add_emod u l
    have q1 : 1 ≤ u / l := by
      have : 1 * l ≤ u := by omega
      exact (Int.le_ediv_iff_mul_le hl).2 this
    have m : l * 1 ≤ l * (u / l) := Int.mul_le_mul_of_nonneg_left q1 (by omega)
    omega
theorem Enough.start {u l : Int} (h0 : 0 < l) (h1 : l ≤ 4611686018427387904) : Enough 100 u l := by
  refine ⟨by omega, Or.inl ?_⟩
  have e : F 101 = 573147844013817084101 := by decide +kernel
  show l < F 101
  omega
/-- What the loop has, and what it still has to do. -/
structure Told (p q : Int) (row : List Int) (u l : Int) : Prop where
  len : row.length ≤ 100
  fuel : Enough (100 - row.length) u l
  eq : Kh306.ofFrac 100 p q = row ++ (if l = 0 then [] else Kh306.ofFrac (100 - row.length) u l)
theorem Told.start {p q : Int} (h0 : 0 < q) (h1 : q ≤ 4611686018427387904) : Told p q [] p q := by
  refine ⟨by simp, Enough.start h0 h1, ?_⟩
  rw [if_neg (show q ≠ 0 by omega)]
  rfl
theorem Told.room {p q : Int} {row : List Int} {u l : Int} (T : Told p q row u l) (hl : 0 < l) : row.length < 100 := by
  obtain ⟨j, hj⟩ := T.fuel.pos hl
  omega
theorem Told.turn {p q : Int} {row : List Int} {u l : Int} (T : Told p q row u l) (hl : 0 < l) :
    Told p q (row ++ [Int.fdiv u l]) l (Int.fmod u l) := by
  have hr := T.room hl
  have ed : Int.fdiv u l = u / l := Int.fdiv_eq_ediv_of_nonneg u (by omega)
  have em : Int.fmod u l = u % l := Int.fmod_eq_emod_of_nonneg u (by omega)
  have ek : 100 - row.length = (100 - (row.length + 1)) + 1 := by omega
  rw [ed, em]
  have hlen : (row ++ [u / l]).length = row.length + 1 := by simp
  have hf := T.fuel
  rw [ek] at hf
  refine ⟨by omega, ?_, ?_⟩
  · rw [hlen]
    exact hf.step hl
  · rw [T.eq, hlen, if_neg (show l ≠ 0 by omega), List.append_assoc, ek]
    congr 1
    rw [Kh306.ofFrac]
    split <;> simp
theorem Told.done {p q : Int} {row : List Int} {u l : Int} (T : Told p q row u l) (hl : ¬ 0 < l) : row = Kh306.ofFrac 100 p q := by
  have h := T.eq
  have h0 := T.fuel.nn
  rw [if_pos (show l = 0 by omega), List.append_nil] at h
  exact h.symm
theorem of_good {p q : Int} (h1 : -4611686018427387904 ≤ p) (h2 : p ≤ 4611686018427387904) (h3 : 1 ≤ q) (h4 : q ≤ 4611686018427387904) :
    PyKh306.of p q = ((Kh306.ofFrac 100 p q).length : Int) :: Kh306.ofFrac 100 p q := by
  have e : PyKh306.of p q = (Kh306.doing (.of_ p q)).value :: (Kh306.doing (.of_ p q)).out := rfl
  have eM : Kh306.M = 4611686018427387904 := by decide
  have d : Kh306.doing (.of_ p q) = ⟨(Kh306.ofPQ p q).length, Kh306.ofPQ p q⟩ := by
    rw [Kh306.doing, if_neg]
    rw [eM]
    omega
  rw [e, d]
  rfl
theorem of_bad {p q : Int} (h : p < -4611686018427387904 ∨ 4611686018427387904 < p ∨ q < 1 ∨ 4611686018427387904 < q) :
    PyKh306.of p q = [-22] := by
  have e : PyKh306.of p q = (Kh306.doing (.of_ p q)).value :: (Kh306.doing (.of_ p q)).out := rfl
  have eM : Kh306.M = 4611686018427387904 := by decide
  have d : Kh306.doing (.of_ p q) = Kh306.say (-22) := by
    rw [Kh306.doing, if_pos]
    rw [eM]
    omega
  rw [e, d]
  rfl
end My
namespace My
theorem said : PySem.Challenge.rw_quotientrows_s01_of.wellSaid = true := by decide +kernel
structure Word (p q : Int) (row : List Int) (u l : Int) : Prop where
  told : Told p q row u l
  hi : l ≤ 4611686018427387904
theorem word_start {p q : Int} (h0 : 0 < q) (h1 : q ≤ 4611686018427387904) :
    0 ≤ q ∧ ([] : List Int).length ≤ 100 ∧ Word p q [] p q :=
  ⟨by omega, by simp, ⟨Told.start h0 h1, h1⟩⟩
theorem word_turn {p q : Int} {row : List Int} {u l : Int} (W : Word p q row u l) (hl : 0 < l) :
    0 ≤ Int.fmod u l ∧ (row ++ [Int.fdiv u l]).length ≤ 100 ∧ Word p q (row ++ [Int.fdiv u l]) l (Int.fmod u l) := by
  have T := W.told
  have h1 := W.hi
  have em : Int.fmod u l = u % l := Int.fmod_eq_emod_of_nonneg u (by omega)
  have r0 := Int.emod_nonneg u (show l ≠ 0 by omega)
  have r1 := Int.emod_lt_of_pos u hl
  exact ⟨by omega, (T.turn hl).len, ⟨T.turn hl, by omega⟩⟩
theorem less {u l : Int} (hl : 0 < l) : (Int.fmod u l).toNat < l.toNat := by
  have em : Int.fmod u l = u % l := Int.fmod_eq_emod_of_nonneg u (by omega)
  have r0 := Int.emod_nonneg u (show l ≠ 0 by omega)
  have r1 := Int.emod_lt_of_pos u hl
  omega
theorem post_list {p q : Int} (h : PySem.Challenge.rw_quotientrows_s01_of.pre [.int p, .int q] = true) {d : WData} (e : d = WData.list ((PyKh306.of p q).map WData.int)) :
    PySem.Challenge.rw_quotientrows_s01_of.post [.int p, .int q] d = true := by
  obtain ⟨a, w, _, ea⟩ := os_pre said h
  obtain ⟨p', q', u⟩ := a
  have e1 := os_j_int (List.cons.inj ea).1
  have e2 := os_j_int (List.cons.inj (List.cons.inj ea).2).1
  rw [ea]
  refine os_shut said w ?_
  rw [e, e1, e2]
  rfl
theorem end_bad {p q : Int} (h : p < -4611686018427387904 ∨ 4611686018427387904 < p ∨ q < 1 ∨ 4611686018427387904 < q) :
    ofPy (PyData.list [PyData.int (-22)]) = WData.list ((PyKh306.of p q).map WData.int) := by
  rw [of_bad h]
  exact os_list rfl
theorem end_good {p q : Int} {row : List Int} {u l : Int} (W : Word p q row u l) (hl : ¬ 0 < l) (h1 : -4611686018427387904 ≤ p) (h2 : p ≤ 4611686018427387904) (h3 : 1 ≤ q) (h4 : q ≤ 4611686018427387904) :
    WData.list (ofPys (List.map PyData.int ([(row.length : Int)] ++ row))) = WData.list ((PyKh306.of p q).map WData.int) := by
  rw [of_good h1 h2 h3 h4, os_ofPys_ints, ← W.told.done hl]
  rfl
section
variable {prog : Program} {w : World} {A : Around} {E : Value → Shared → Prop} {s : Shared} {x y : Int} {t u : Tok} {Q : Value → Shared → Prop}
theorem small_log {y : Int} (h0 : 0 < y) (h1 : y ≤ 4611686018427387904) : y.natAbs.log2 < 9000 := by
  have hn : y.natAbs ≠ 0 := by omega
  have h : y.natAbs < 2 ^ 63 := by
    have e : (2 : Nat) ^ 63 = 9223372036854775808 := by decide
    rw [e]
    omega
  have := (Nat.log2_lt hn).mpr h
  omega
theorem step_div (hy : 0 < y) (hs : y ≤ 4611686018427387904) (h : Q (.int (Int.fdiv x y) s.toks) { s with toks := s.toks + 1 }) :
    wpAny (model prog w) A (binaryOp .FloorDiv (.int x t) (.int y u)) Q E s :=
  PyProof.Rows.floordiv_int (by omega) h (Or.inl (PyProof.noPylong_of_log2 (small_log hy hs)))
theorem step_mod (hy : 0 < y) (h : Q (.int (Int.fmod x y) s.toks) { s with toks := s.toks + 1 }) :
    wpAny (model prog w) A (binaryOp .Mod (.int x t) (.int y u)) Q E s :=
  PyProof.Rows.mod_int (by omega) h
end
end My
local macro_rules | `(tactic| walk_at "binaryOp FloorDiv int int") => `(tactic| (k_here; (with_reducible refine' My.step_div ?k1 ?k2 ?_); (case k1 => k_dflt omega); (case k2 => k_dflt (exact My.Word.hi (by assumption)))))
local macro_rules | `(tactic| walk_at "binaryOp Mod int int") => `(tactic| (k_here; (with_reducible refine' My.step_mod ?k1 ?_); (case k1 => k_dflt omega)))
local macro_rules | `(tactic| kst_facts1) => `(tactic| first | (with_reducible exact PyProof.Rows.IntsAre.nil) | (with_reducible exact PyProof.Rows.IntsAre.append (by with_reducible assumption) (.cons _ _ .nil)))
example : Int → Int → List Int → List Int → Int → Int → Prop := fun p q _ row u l => 0 ≤ l ∧ row.length ≤ 100 ∧ My.Word p q row u l
set_option maxRecDepth 100000 in
set_option maxHeartbeats 8000000 in
theorem PySem.Challenge.cw_quotientrows_s01_of_holds : PySem.Challenge.rw_quotientrows_s01_of.Holds := by
  k_with "state" => first | exact My.word_start (by omega) (by omega) | exact My.word_turn (by assumption) (by omega)
  k_with "measure" => exact My.less (by omega)
  k_with "exec While Compare cons nil" => k_while_given ["p", "q"] (fun p q _ row u l => 0 ≤ l ∧ row.length ≤ 100 ∧ My.Word p q row u l) (fun _ _ _ _ _ l => l.toNat) "row" "upper" "lower"
  open_ks with [.int 0, .int 1]
  · exact My.post_list hpre (My.end_bad (by omega))
  · exact My.post_list hpre (My.end_bad (by omega))
  · exact My.post_list hpre (My.end_bad (by omega))
  · exact My.post_list hpre (My.end_good (by assumption) (by assumption) (by omega) (by omega) (by omega) (by omega))
#print axioms PySem.Challenge.cw_quotientrows_s01_of_holds
