import PyProof.Rows.All
import Wide.All
import OpenK.AllK
import Wide.FinOn
import KE.OsGo
import KE.OsArgs
import PySem.Challenge.RW_quotientrows_s02_value
set_option Elab.async false
open PySem PySem.W PyProof.Rows
namespace Rw
open Kh306
theorem M_eq : Kh306.M = 4611686018427387904 := by decide
theorem ok_cons {a : Int} {l : Row} : ok (a :: l) = true ↔ -M ≤ a ∧ a ≤ M ∧ okTail l = true ∧ l.length ≤ 95 := by
  unfold ok
  simp
theorem value_one (a : Int) : value [a] = ⟨a, 1⟩ := by rw [value]
theorem value_cons (a b : Int) (l : Row) : value (a :: b :: l) = ⟨a * (value (b :: l)).over + (value (b :: l)).under, (value (b :: l)).over⟩ := by
  rw [value]
  intro h
  cases h
theorem okTail_iff : ∀ l : Row, okTail l = true ↔ (∀ x ∈ l, 1 ≤ x ∧ x ≤ M) ∧ (∀ h : l ≠ [], 2 ≤ l.getLast h)
  | [] => by simp [okTail]
  | [a] => by
    unfold okTail
    simp
    omega
  | a :: b :: l => by
    rw [okTail]
    · have ih := okTail_iff (b :: l)
      simp only [Bool.and_eq_true, decide_eq_true_eq, ih]
      constructor
      · rintro ⟨h1, h2, h3, h4⟩
        refine ⟨?_, ?_⟩
        · intro x hx
          cases hx with
          | head => exact ⟨h1, h2⟩
          | tail _ hx => exact h3 x hx
        · intro h
          rw [List.getLast_cons (by simp)]
          exact h4 (by simp)
      · rintro ⟨h1, h2⟩
        refine ⟨(h1 a (by simp)).1, (h1 a (by simp)).2, ?_, ?_⟩
        · intro x hx
          exact h1 x (List.mem_cons_of_mem _ hx)
        · intro h
          have := h2 (by simp)
          rw [List.getLast_cons (by simp)] at this
          exact this
    · intro h
      cases h
/-- a row, told by its places -/
structure Good (t : Row) : Prop where
  pos : 0 < t.length
  len : t.length ≤ 96
  size : ∀ i : Nat, i < t.length → -4611686018427387904 ≤ t.getD i 0 ∧ t.getD i 0 ≤ 4611686018427387904
  up : ∀ i : Nat, 0 < i → i < t.length → 1 ≤ t.getD i 0
  last : 1 < t.length → 2 ≤ t.getD (t.length - 1) 0
theorem ok_iff (t : Row) : ok t = true ↔ Good t := by
  cases t with
  | nil =>
    constructor
    · intro h
      simp [ok] at h
    · intro h
      have := h.pos
      simp at this
  | cons a l =>
    rw [ok_cons, okTail_iff, M_eq]
    constructor
    · rintro ⟨h1, h2, ⟨h3, h4⟩, h5⟩
      refine ⟨by simp, by simp; omega, ?_, ?_, ?_⟩
      · intro i hi
        cases i with
        | zero => simp; omega
        | succ i =>
          simp at hi
          have e : (a :: l).getD (i + 1) 0 = l[i] := by
            simp [hi]
          have := h3 _ (List.getElem_mem hi)
          rw [e]
          omega
      · intro i h0 hi
        cases i with
        | zero => omega
        | succ i =>
          simp at hi
          have e : (a :: l).getD (i + 1) 0 = l[i] := by
            simp [hi]
          have := h3 _ (List.getElem_mem hi)
          rw [e]
          omega
      · intro hl
        have hn : l ≠ [] := by
          intro e
          subst e
          simp at hl
        have := h4 hn
        have hlen : 0 < l.length := List.length_pos_iff.2 hn
        have e : (a :: l).getD ((a :: l).length - 1) 0 = l.getLast hn := by
          rw [List.getLast_eq_getElem]
          have e2 : (a :: l).length - 1 = (l.length - 1) + 1 := by
            simp
            omega
          rw [e2]
          simp [show l.length - 1 < l.length by omega]
        rw [e]
        exact this
    · intro h
      have z := h.size 0 (by simp)
      simp at z
      refine ⟨z.1, z.2, ⟨?_, ?_⟩, ?_⟩
      · intro x hx
        obtain ⟨i, hi, e⟩ := List.getElem_of_mem hx
        have e2 : (a :: l).getD (i + 1) 0 = x := by
          simp [hi, e]
        have h1 := h.size (i + 1) (by simp; omega)
        have h2 := h.up (i + 1) (by omega) (by simp; omega)
        rw [e2] at h1 h2
        omega
      · intro hn
        have hlen : 0 < l.length := List.length_pos_iff.2 hn
        have e : (a :: l).getD ((a :: l).length - 1) 0 = l.getLast hn := by
          rw [List.getLast_eq_getElem]
          have e2 : (a :: l).length - 1 = (l.length - 1) + 1 := by
            simp
            omega
          rw [e2]
          simp [show l.length - 1 < l.length by omega]
        have := h.last (by simp; omega)
        rw [e] at this
        exact this
      · have := h.len
        simp at this
        omega
theorem value_spec (t : Row) : PyKh306.value t = if ok t = false then [-22] else
    if (value t).over < -4611686018427387904 ∨ 4611686018427387904 < (value t).over ∨ 4611686018427387904 < (value t).under then [-75] else [0, (value t).over, (value t).under] := by
  have e : PyKh306.value t = (Kh306.doing (.value t)).value :: (Kh306.doing (.value t)).out := rfl
  rw [e, Kh306.doing, M_eq]
  split
  · rfl
  · dsimp only
    split <;> rfl
/-- what the loop from behind has: the value of what it has gone through, and the last one -/
structure Val (last : Int) (pre : List Int) (u l : Int) : Prop where
  eq : value (pre.reverse ++ [last]) = ⟨u, l⟩
theorem Val.start (last : Int) : Val last [] last 1 := ⟨value_one last⟩
theorem Val.turn {last n u l : Int} {pre : List Int} (h : Val last pre u l) : Val last (pre ++ [n]) (n * u + l) u := by
  refine ⟨?_⟩
  have e : (pre ++ [n]).reverse ++ [last] = n :: (pre.reverse ++ [last]) := by simp
  have h1 := h.eq
  rw [e]
  cases hp : pre.reverse ++ [last] with
  | nil => simp at hp
  | cons b m =>
    rw [hp] at h1
    rw [value_cons, h1]
theorem Val.done {t : Row} {u l : Int} (hg : 0 < t.length) (h : Val (t.getD (t.length - 1) 0) (t.take (t.length - 1)).reverse u l) : value t = ⟨u, l⟩ := by
  have h1 := h.eq
  rw [List.reverse_reverse] at h1
  have e : t.take (t.length - 1) ++ [t.getD (t.length - 1) 0] = t := by
    have e3 : t.getD (t.length - 1) 0 = t[t.length - 1] := by simp [show t.length - 1 < t.length by omega]
    rw [e3]
    have e4 : t.take (t.length - 1 + 1) = t.take (t.length - 1) ++ [t[t.length - 1]] := by
      rw [List.take_add_one]
      simp [show t.length - 1 < t.length by omega]
    rw [← e4]
    exact List.take_of_length_le (by omega)
  rw [e] at h1
  exact h1
end Rw
namespace Rw
open Kh306
theorem not_ok {t : Row} (h : ¬ Good t) : false = ok t := by
  cases e : ok t with
  | false => rfl
  | true => exact absurd ((ok_iff t).1 e) h
theorem bad_len {t : Row} (h : t.length < 1 ∨ 96 < t.length) : false = ok t :=
  not_ok fun g => by
    have h1 := g.pos
    have h2 := g.len
    omega
theorem bad_first {t : Row} (h0 : 0 < t.length) (h : t.getD 0 0 < -4611686018427387904 ∨ 4611686018427387904 < t.getD 0 0) : false = ok t :=
  not_ok fun g => by
    have h1 := g.size 0 h0
    omega
theorem mem_tail {t : Row} {n : Int} (hn : n ∈ t.drop 1) : ∃ i, 0 < i ∧ i < t.length ∧ t.getD i 0 = n := by
  obtain ⟨i, hi, e⟩ := List.getElem_of_mem hn
  simp at hi e
  refine ⟨i + 1, by omega, by omega, ?_⟩
  have h2 : i + 1 < t.length := by omega
  have e3 : t.getD (i + 1) 0 = t[i + 1] := by simp [h2]
  rw [e3, ← e]
theorem bad_item {t : Row} {n : Int} (hn : n ∈ t.drop 1) (h : n < 1 ∨ 4611686018427387904 < n) : false = ok t :=
  not_ok fun g => by
    obtain ⟨i, h1, h2, h3⟩ := mem_tail hn
    have h4 := g.size i h2
    have h5 := g.up i h1 h2
    omega
theorem good_all {t : Row} (h0 : 0 < t.length) (h1 : t.length ≤ 96) (h2 : -4611686018427387904 ≤ t.getD 0 0) (h3 : t.getD 0 0 ≤ 4611686018427387904) (h4 : ∀ v ∈ t.drop 1, 1 ≤ v ∧ v ≤ 4611686018427387904)
    (h5 : 1 < t.length → 2 ≤ t.getD (t.length - 1) 0) : true = ok t := by
  have item : ∀ i : Nat, 0 < i → i < t.length → 1 ≤ t.getD i 0 ∧ t.getD i 0 ≤ 4611686018427387904 := by
    intro i hi hlt
    refine h4 _ ?_
    have e3 : t.getD i 0 = t[i] := by simp [hlt]
    rw [e3, List.mem_iff_getElem]
    refine ⟨i - 1, by simp; omega, ?_⟩
    rw [List.getElem_drop]
    congr 1
    omega
  refine ((ok_iff t).2 ⟨h0, h1, ?_, fun i hi hlt => (item i hi hlt).1, h5⟩).symm
  intro i hi
  by_cases e : i = 0
  · rw [e]
    exact ⟨h2, h3⟩
  · have := item i (by omega) hi
    omega
theorem bad_last {t : Row} (h : 1 < t.length) (h2 : t.getD (t.length - 1) 0 < 2) : false = ok t :=
  not_ok fun g => by
    have h1 := g.last h
    omega
theorem tree_first {t : Row} (h0 : 0 < t.length) (h : t.getD (Int.toNat 0) 0 < -4611686018427387904 ∨ 4611686018427387904 < t.getD (Int.toNat 0) 0) : false = ok t := bad_first h0 h
theorem at_end (t : Row) : (-1 + (t.length : Int)).toNat = t.length - 1 := by omega
theorem tree_bad_last {t : Row} (h : 1 < t.length) (h2 : t.getD (-1 + (t.length : Int)).toNat 0 < 2) : false = ok t := by
  rw [at_end] at h2
  exact bad_last h h2
theorem tree_good {t : Row} (h4 : ∀ v ∈ t.drop 1, 1 ≤ v ∧ v ≤ 4611686018427387904) (h0 : 0 < t.length) (h1 : t.length ≤ 96) (h2 : -4611686018427387904 ≤ t.getD (Int.toNat 0) 0) (h3 : t.getD (Int.toNat 0) 0 ≤ 4611686018427387904)
    (h5 : 1 < t.length → 2 ≤ t.getD (-1 + (t.length : Int)).toNat 0) : true = ok t := by
  rw [at_end] at h5
  exact good_all h0 h1 h2 h3 h4 h5
theorem tree_value {t : Row} {u l : Int} (h : Val (t.getD (-1 + (t.length : Int)).toNat 0) (t.take (t.length - 1)).reverse u l) (h0 : 0 < t.length) : value t = ⟨u, l⟩ := by
  rw [at_end] at h
  exact h.done h0
end Rw
namespace My
section
variable {prog : Program} {w : World} {A : Around} {E : Value → Shared → Prop} {s : Shared} {env : Env} {h₀ : Heap} {x : Str} {body : List Stmt} {Q : Flow → Shared → Prop}
/-- a loop over what is handed back by reversed, of a list made on the spot; two numbers are turned -/
theorem rev_rule {I ax : Addr} {vs : List Value} {ns : List Int} {nn : Nat} {m₀ : Str → Option Value} {rest : List (Addr × Obj)} {y y' : Str} {u₀ l₀ : Int} {t₀ t₁ : Tok} (stored : List Str) (P : List Int → Int → Int → Prop) (B : Int → Prop)
    (hh : A.handled = none) (hi : IntsAre vs ns) (F : Fr h₀ env.locals s.heap m₀)
    (N : News h₀ env.locals s.heap ((I, revObj ax ((vs.length : Int) - 1)) :: (ax, listOf vs.toArray nn) :: rest))
    (hI : ∀ p ∈ rest, p.1 ≠ I) (hA : ∀ p ∈ rest, p.1 ≠ ax)
    (hu : m₀ y = some (.int u₀ t₀)) (hl : m₀ y' = some (.int l₀ t₁)) (hp : P [] u₀ l₀) (hb : ∀ n ∈ ns, B n)
    (turn : ∀ (u : Int) (tu : Tok) (l : Int) (tl : Tok) (pre : List Int) (n : Int) (t : Tok) (o : Str → Option Value) (h : Heap) (tk : Nat) (own : List (Addr × Obj)), B n → OwnOff own (rest.map (·.1)) → P pre u l →
      Fr h₀ env.locals h (fun z => if z = x then some (.int n t) else if z = y then some (.int u tu) else if z = y' then some (.int l tl) else if stored.contains z then o z else m₀ z) → News h₀ env.locals h (rest ++ own) →
      wpAny (model prog w) A (execs body env) (InvPostN h₀ env.locals (KstS (fun _ : Int × Tok × Int × Tok => rest) (fun c => [(y, .int c.1 c.2.1), (y', .int c.2.2.1 c.2.2.2)]) (fun _ => True) x stored m₀ (fun pre c => P pre c.1 c.2.2.1) (pre ++ [n])) own (rest.map (·.1)) { s with heap := h, toks := tk } Q) E { s with heap := h, toks := tk })
    (done : ∀ (u : Int) (tu : Tok) (l : Int) (tl : Tok) (o : Str → Option Value) (h : Heap) (tk : Nat), P ns.reverse u l →
      Fr h₀ env.locals h (fun z => if z = x then o z else if z = y then some (.int u tu) else if z = y' then some (.int l tl) else if stored.contains z then o z else m₀ z) → News h₀ env.locals h rest → Q .next { s with heap := h, toks := tk }) :
    wpAny (model prog w) A (pyIter (.ref I)) (fun it s₂ => LoopAtV prog w A h₀ env x body Q E it s₂) E s := by
  have nI := N _ (List.mem_cons_self ..)
  have nA := N _ (List.mem_cons_of_mem _ (List.mem_cons_self ..))
  have itI : s.heap.IsRevIter I ax ((vs.length : Int) - 1) := ⟨_, nI.1, rfl, rfl⟩
  have lA : s.heap.IsList ax vs.toArray := ⟨_, nA.1, rfl, nn, rfl⟩
  have ne : ax ≠ I := by
    intro e
    have g1 := nA.1
    have g2 := nI.1
    rw [show ((ax, listOf vs.toArray nn) : Addr × Obj).1 = I from e] at g1
    have g3 := Option.some.inj (g1.symm.trans g2)
    have g4 := congrArg Obj.cls g3
    exact absurd g4 (by simp [revObj])
  refine wpAny_pyIter_revIter itI ?_
  have W := Walks.listRev (prog := prog) (w := w) hh I ax ne vs.toArray
  have size : vs.toArray.size = ns.reverse.length := by simp [hi.length]
  rw [size] at W
  let c₀ : Int × Tok × Int × Tok := (u₀, t₀, l₀, t₁)
  refine loop_invN (fun i m nx => KstS (fun _ : Int × Tok × Int × Tok => rest) (fun c => [(y, .int c.1 c.2.1), (y', .int c.2.2.1 c.2.2.2)]) (fun _ => True) x stored m₀ (fun pre c => P pre c.1 c.2.2.1) (ns.reverse.take i) m nx) W ?_ ?_ ?_ ?_ ⟨Nat.zero_le _, ?_, lA⟩ F (fun p hp => N p (List.mem_cons_of_mem _ (List.mem_cons_of_mem _ hp))) ⟨c₀, rfl, trivial, ?_, fun _ _ _ _ => rfl, by simpa using hp⟩ ?_ ?_
  · intro hm
    rcases List.mem_cons.mp hm with e | hm
    · exact nI.2.1 e.symm
    · exact nA.2.1 (List.mem_singleton.mp hm).symm
  · intro b hb
    rw [List.mem_singleton.mp hb]
    exact nI.2.2
  · intro p hp hm
    exact hI p hp (List.mem_singleton.mp hm)
  · intro p hp hm
    rcases List.mem_cons.mp hm with e | hm
    · exact hI p hp e
    · exact hA p hp (List.mem_singleton.mp hm)
  · rw [← size, List.size_toArray]
    have e : (vs.length : Int) - 1 - ((0 : Nat) : Int) = (vs.length : Int) - 1 := by omega
    rw [e]
    exact itI
  · intro p hp
    rcases List.mem_cons.mp hp with rfl | hp
    · exact hu
    · rw [List.mem_singleton.mp hp]
      exact hl
  · rintro i v m₁ nx h tk own hin hv _ hoff ⟨c, rfl, _, h1, h2, hp'⟩ F₁ N₁
    have hlen : i < vs.length := by
      rw [← size, List.size_toArray] at hin
      exact hin
    have hv' : vs.reverse[i]? = some v := by
      rw [List.getElem?_reverse hlen]
      rw [← size] at hv
      simpa using hv
    obtain ⟨n, t, rfl, hn⟩ := hi.reverse.at i v hv'
    have hs : ns.reverse.take (i + 1) = ns.reverse.take i ++ [n] := by simp only [List.take_add_one, hn, Option.toList]
    rw [hs]
    have F₂ := kst_fr (stored := stored) h1 h2 F₁
    exact turn c.1 c.2.1 c.2.2.1 c.2.2.2 _ n t m₁ h tk own (hb n (List.mem_reverse.mp (List.mem_of_getElem? hn))) hoff hp' F₂ N₁
  · rintro m₁ nx h tk ⟨c, rfl, _, h1, h2, hp'⟩ F₁ N₁
    rw [List.take_length] at hp'
    exact done c.1 c.2.1 c.2.2.1 c.2.2.2 m₁ h tk hp' (kst_frOut h1 h2 F₁) N₁
end
end My
namespace My
theorem said : PySem.Challenge.rw_quotientrows_s02_value.wellSaid = true := by decide +kernel
/-- what stands ahead of the last one is 2^62 in size at most -/
theorem bounds {t : List Int} (h4 : ∀ v ∈ t.drop 1, 1 ≤ v ∧ v ≤ 4611686018427387904) (h2 : -4611686018427387904 ≤ t.getD (Int.toNat 0) 0) (h3 : t.getD (Int.toNat 0) 0 ≤ 4611686018427387904) :
    ∀ n ∈ t.take (t.length - 1), -4611686018427387904 ≤ n ∧ n ≤ 4611686018427387904 := by
  intro n hn
  have hm := List.mem_of_mem_take hn
  cases t with
  | nil => simp at hm
  | cons a l =>
    have h2' : -4611686018427387904 ≤ a := h2
    have h3' : a ≤ 4611686018427387904 := h3
    cases hm with
    | head => exact ⟨h2', h3'⟩
    | tail _ hm =>
      have := h4 n (show n ∈ List.drop 1 (a :: l) from hm)
      omega
section
variable {prog : Program} {w : World} {A : Around} {E : Value → Shared → Prop} {s : Shared} {a b : Int} {t u : Tok} {Q : Value → Shared → Prop}
theorem step_mul (hb : -4611686018427387904 ≤ a ∧ a ≤ 4611686018427387904) (h : Q (.int (a * b) s.toks) { s with toks := s.toks + 1 }) :
    wpAny (model prog w) A (binaryOp .Mult (.int a t) (.int b u)) Q E s :=
  PyProof.Rows.mul_int h (IntMulOk.of_left (intBits_le_64 (by omega) (by omega)))
end
theorem post_list {ns : List Int} (h : PySem.Challenge.rw_quotientrows_s02_value.pre [ofPy (PyData.list (List.map PyData.int ns))] = true) {d : WData} (e : d = WData.list ((PyKh306.value ns).map WData.int)) :
    PySem.Challenge.rw_quotientrows_s02_value.post [ofPy (PyData.list (List.map PyData.int ns))] d = true := by
  obtain ⟨a, w, _, ea⟩ := os_pre said h
  obtain ⟨ns', u⟩ := a
  have e1 := os_j_ints (List.cons.inj ea).1
  rw [ea]
  refine os_shut said w ?_
  rw [e, e1]
  rfl
theorem end_bad {t : List Int} (h : false = Kh306.ok t) : ofPy (PyData.list [PyData.int (-22)]) = WData.list ((PyKh306.value t).map WData.int) := by
  rw [Rw.value_spec, if_pos h.symm]
  exact os_list rfl
theorem end_beyond {t : List Int} {u l : Int} (V : Rw.Val (t.getD (-1 + (t.length : Int)).toNat 0) (t.take (t.length - 1)).reverse u l) (ho : true = Kh306.ok t) (h0 : 0 < t.length)
    (h : [u, l].getD (Int.toNat 0) 0 < -4611686018427387904 ∨ 4611686018427387904 < [u, l].getD (Int.toNat 0) 0 ∨ 4611686018427387904 < [u, l].getD (Int.toNat 1) 0) :
    ofPy (PyData.list [PyData.int (-75)]) = WData.list ((PyKh306.value t).map WData.int) := by
  have h' : u < -4611686018427387904 ∨ 4611686018427387904 < u ∨ 4611686018427387904 < l := h
  rw [Rw.value_spec, if_neg (by rw [← ho]; decide), Rw.tree_value V h0]
  dsimp only
  rw [if_pos h']
  exact os_list rfl
theorem end_good {t : List Int} {u l : Int} (V : Rw.Val (t.getD (-1 + (t.length : Int)).toNat 0) (t.take (t.length - 1)).reverse u l) (ho : true = Kh306.ok t) (h0 : 0 < t.length)
    (h : ¬ ([u, l].getD (Int.toNat 0) 0 < -4611686018427387904 ∨ 4611686018427387904 < [u, l].getD (Int.toNat 0) 0 ∨ 4611686018427387904 < [u, l].getD (Int.toNat 1) 0)) :
    ofPy (PyData.list [PyData.int 0, PyData.int u, PyData.int l]) = WData.list ((PyKh306.value t).map WData.int) := by
  have h' : ¬ (u < -4611686018427387904 ∨ 4611686018427387904 < u ∨ 4611686018427387904 < l) := h
  rw [Rw.value_spec, if_neg (by rw [← ho]; decide), Rw.tree_value V h0]
  dsimp only
  rw [if_neg h']
  exact os_list rfl
theorem one_in {p : Addr × Obj} {own : List (Addr × Obj)} : ∀ q ∈ [p], q ∈ p :: own := fun _ h => List.mem_cons.mpr (Or.inl (List.mem_singleton.mp h))
theorem rest_in {p : Addr × Obj} {own : List (Addr × Obj)} : ∀ q ∈ own, q ∈ p :: own := fun _ h => List.mem_cons_of_mem _ h
theorem others {x y y' b : Str} {v v' a0 a1 a2 a3 a4 a5 : Value} {m o : Str → Option Value} : ∀ z, z ≠ x → (∀ p ∈ [(y, v), (y', v')], z ≠ p.1) → [b].contains z = false →
    (fun z => if z = y' then some a0 else if z = y then some a1 else if z = b then some a2 else if z = x then some a3 else if z = y then some a4 else if z = y' then some a5 else if [b].contains z then o z else m z) z = m z := by
  intro z h1 h2 h3
  have h4 : z ≠ y := h2 _ (List.Mem.head _)
  have h5 : z ≠ y' := h2 _ (List.Mem.tail _ (List.Mem.head _))
  have h6 : z ≠ b := by
    intro e
    rw [e] at h3
    simp at h3
  dsimp only
  rw [if_neg h5, if_neg h4, if_neg h6, if_neg h1, if_neg h4, if_neg h5, h3]
  rfl
end My
local macro_rules | `(tactic| walk_at "binaryOp Mult int int") => `(tactic| (k_here; (with_reducible refine' My.step_mul ?k1 ?_); (case k1 => with_reducible assumption)))
local macro_rules | `(tactic| walk_at "pyIter ref") => `(tactic| ((with_reducible show wpAny _ _ (pyIter (Value.ref _)) (fun it s₂ => LoopAtV _ _ _ _ _ _ _ _ _ it s₂) _ _); k_here; (rename Fr _ _ _ _ => lF'); (rename News _ _ _ _ => lN'); (with_unfolding_all refine' My.rev_rule (y := Str.ofString "upper") (y' := Str.ofString "lower") [Str.ofString "behind"] (Rw.Val _) (fun n => -4611686018427387904 ≤ n ∧ n ≤ 4611686018427387904) (by rfl) (by assumption) lF' lN' ?ki ?ka (by rfl) (by rfl) (Rw.Val.start _) ?kb (fun u' tu' l' tl' kPre n' t' o' h' tk' own' kB kOff kInv F' N' => ?_) (fun u' tu' l' tl' o' h' tk' kInv F' N' => ?_)); (case ki => k_all); (case ka => k_all); (case kb => exact My.bounds (by assumption) (by omega) (by omega)); (all_goals (try clear lF' lN')); (all_goals (have kMark := kstMark)); (all_goals (try dsimp only at kB)); (all_goals (try simp only [List.map_cons, List.map_nil] at kOff)); (all_goals (try simp only [List.nil_append, List.cons_append, List.append_nil] at N')); (all_goals (try k_fold))))
local macro_rules | `(tactic| walk_at "InvEndN") => `(tactic| ((with_reducible show InvEndN _ _ (KstS (σ := Int × Tok × Int × Tok) _ _ _ _ _ _ _ _) _ _ _ _); (rename Fr _ _ _ _ => fE'); (rename News _ _ _ _ => nE'); (with_unfolding_all refine kst_end (_, _, _, _) fE' nE' My.one_in My.rest_in (by rfl) trivial (by kst_all) My.others (by (with_reducible exact Rw.Val.turn (by with_reducible assumption))))))
set_option maxRecDepth 100000 in
set_option maxHeartbeats 8000000 in
theorem PySem.Challenge.cw_quotientrows_s02_value_holds : PySem.Challenge.rw_quotientrows_s02_value.Holds := by
  k_with "pyIter ref" => (k_of "quotient" => k_search (fun pre => ∀ v ∈ pre, 1 ≤ v ∧ v ≤ 4611686018427387904))
  open_ks
  · exact My.post_list hpre (My.end_bad (Rw.bad_len (by omega)))
  · exact My.post_list hpre (My.end_bad (Rw.bad_len (by omega)))
  · exact My.post_list hpre (My.end_bad (Rw.tree_first (by omega) (by omega)))
  · exact My.post_list hpre (My.end_bad (Rw.bad_item (by with_reducible assumption) (by omega)))
  · exact My.post_list hpre (My.end_bad (Rw.bad_item (by with_reducible assumption) (by omega)))
  · exact My.post_list hpre (My.end_beyond (by with_reducible assumption) (Rw.tree_good (by with_reducible assumption) (by omega) (by omega) (by omega) (by omega) (by omega)) (by omega) (by omega))
  · exact My.post_list hpre (My.end_beyond (by with_reducible assumption) (Rw.tree_good (by with_reducible assumption) (by omega) (by omega) (by omega) (by omega) (by omega)) (by omega) (by omega))
  · exact My.post_list hpre (My.end_good (by with_reducible assumption) (Rw.tree_good (by with_reducible assumption) (by omega) (by omega) (by omega) (by omega) (by omega)) (by omega) (by omega))
  · exfalso
    omega
  · exact My.post_list hpre (My.end_beyond (by with_reducible assumption) (Rw.tree_good (by with_reducible assumption) (by omega) (by omega) (by omega) (by omega) (by omega)) (by omega) (by omega))
  · exact My.post_list hpre (My.end_beyond (by with_reducible assumption) (Rw.tree_good (by with_reducible assumption) (by omega) (by omega) (by omega) (by omega) (by omega)) (by omega) (by omega))
  · exact My.post_list hpre (My.end_good (by with_reducible assumption) (Rw.tree_good (by with_reducible assumption) (by omega) (by omega) (by omega) (by omega) (by omega)) (by omega) (by omega))
  · exact My.post_list hpre (My.end_bad (Rw.tree_bad_last (by omega) (by omega)))
#print axioms PySem.Challenge.cw_quotientrows_s02_value_holds
