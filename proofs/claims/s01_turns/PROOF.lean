import PyProof.Rows.All
import KE.OsGo
import KE.OsMore
import PySem.Challenge.RW_turnstree_s01_turns
open PySem PySem.W
set_option Elab.async false
namespace Req
theorem dec_cons {c : Codec} {cs : List Codec} {d : WData} {ds : List WData} (h : (Codec.decAll (c :: cs) (d :: ds)).isSome = true) :
    (Codec.decAll [c] [d]).isSome = true ∧ (Codec.decAll cs ds).isSome = true := by
  have e : Codec.decAll (c :: cs) (d :: ds) = Codec.both Prod.mk (c.dec d) (Codec.decAll cs ds) := rfl
  have e1 : Codec.decAll [c] [d] = Codec.both Prod.mk (c.dec d) (some ()) := rfl
  rw [e] at h
  rw [e1]
  cases h1 : c.dec d with
  | none =>
    rw [h1] at h
    cases h
  | some a =>
    cases h2 : Codec.decAll cs ds with
    | none =>
      rw [h1, h2] at h
      cases h
    | some r => exact ⟨rfl, rfl⟩
theorem dec_join {c : Codec} {cs : List Codec} {d : WData} {ds : List WData} {a : c.denote} {r : Codec.denoteAll cs} (h1 : Codec.decAll [c] [d] = some (a, ())) (h2 : Codec.decAll cs ds = some r) :
    Codec.decAll (c :: cs) (d :: ds) = some (a, r) := by
  have e : Codec.decAll (c :: cs) (d :: ds) = Codec.both Prod.mk (c.dec d) (Codec.decAll cs ds) := rfl
  have e1 : Codec.decAll [c] [d] = Codec.both Prod.mk (c.dec d) (some ()) := rfl
  rw [e1] at h1
  rw [e, h2]
  cases h3 : c.dec d with
  | none =>
    rw [h3] at h1
    cases h1
  | some b =>
    rw [h3] at h1
    cases h1
    rfl
theorem dec_int {lo hi k : Int} (h : (Codec.decAll [.int lo hi] [WData.int k]).isSome = true) : Codec.decAll [.int lo hi] [WData.int k] = some (k, ()) ∧ lo ≤ k ∧ k ≤ hi := by
  have e : Codec.decAll [.int lo hi] [WData.int k] = Codec.both Prod.mk (if Codec.inInt lo hi k = true then some k else none) (some ()) := rfl
  rw [e] at h ⊢
  cases h1 : Codec.inInt lo hi k with
  | false =>
    rw [h1] at h
    cases h
  | true =>
    unfold Codec.inInt at h1
    simp only [Bool.and_eq_true, decide_eq_true_eq] at h1
    exact ⟨rfl, h1.1, h1.2⟩
theorem same_list {l k : List Int} (h : l = k) : same (WData.list (ofPys (l.map PyData.int))) (WData.list (k.map WData.int)) = true := by
  subst h
  rw [ofPys_ints]
  exact same_self _
end Req
namespace S01
open Rb40

theorem pathOn_more : ∀ (f a b g : Nat), 0 < a → 0 < b → a + b ≤ f → a + b ≤ g → pathOn f a b = pathOn g a b
  | 0, a, b, g, ha, hb, hf, hg => by omega
  | f + 1, a, b, 0, ha, hb, hf, hg => by omega
  | f + 1, a, b, g + 1, ha, hb, hf, hg => by
    unfold pathOn
    by_cases e : a = b
    · simp [e]
    · by_cases l : b < a
      · rw [if_neg e, if_neg e, if_pos l, if_pos l, pathOn_more f (a - b) b g (by omega) hb (by omega) (by omega)]
      · rw [if_neg e, if_neg e, if_neg l, if_neg l, pathOn_more f a (b - a) g ha (by omega) (by omega) (by omega)]
theorem path_right {a b : Nat} (hb : 0 < b) (h : b < a) : path a b = true :: path (a - b) b := by
  have e : path a b = pathOn ((a + b - 1) + 1) a b := by unfold path; rw [show a + b - 1 + 1 = a + b by omega]
  rw [e, pathOn, if_neg (by omega), if_pos h]
  unfold path
  rw [pathOn_more (a + b - 1) (a - b) b (a - b + b) (by omega) hb (by omega) (by omega)]
theorem path_left {a b : Nat} (ha : 0 < a) (h : a < b) : path a b = false :: path a (b - a) := by
  have e : path a b = pathOn ((a + b - 1) + 1) a b := by unfold path; rw [show a + b - 1 + 1 = a + b by omega]
  rw [e, pathOn, if_neg (by omega), if_neg (by omega)]
  unfold path
  rw [pathOn_more (a + b - 1) a (b - a) (a + (b - a)) ha (by omega) (by omega) (by omega)]
theorem path_same (a : Nat) : path a a = [] := by
  unfold path
  cases h : a + a with
  | zero => rfl
  | succ n => rw [pathOn, if_pos rfl]
/-- A path seen from one side: t says which turn takes the second number from the first. -/
def side (t : Bool) (x y : Nat) : List Bool := if t = true then path x y else path y x
theorem side_same (t : Bool) (x : Nat) : side t x x = [] := by
  cases t <;> exact path_same x
theorem side_swap (t : Bool) (x y : Nat) : side t x y = side (!t) y x := by
  cases t <;> rfl
theorem side_more {t : Bool} {x y : Nat} (hy : 0 < y) (h : y < x) : side t x y = t :: side t (x - y) y := by
  cases t
  · exact path_left hy h
  · exact path_right hy h
theorem side_rep {t : Bool} {y r : Nat} (hr : 0 < r) (hy : 0 < y) : ∀ q : Nat, side t (q * y + r) y = List.replicate q t ++ side t r y
  | 0 => by simp
  | q + 1 => by
    have e : (q + 1) * y + r = (q * y + r) + y := by rw [Nat.add_mul]; omega
    rw [e, side_more hy (by omega), Nat.add_sub_cancel, side_rep hr hy q, List.replicate_succ, List.cons_append]
theorem runs_rep {t : Bool} {l : List Bool} : ∀ (q k : Nat), runsOn t k (List.replicate q t ++ l) = runsOn t (k + q) l
  | 0, k => by simp
  | q + 1, k => by
    rw [List.replicate_succ, List.cons_append, runsOn, if_pos rfl, runs_rep q (k + 1)]
    rw [show k + 1 + q = k + (q + 1) by omega]
theorem not_ne (t : Bool) : ¬ (!t) = t := by cases t <;> decide
theorem step {t : Bool} {x y q r : Nat} (hne : x ≠ y) (hy : 0 < y) (e : x = q * y + r) (hr : 0 < r) (hle : r ≤ y) :
    runsOn t 0 (side t x y) = q :: runsOn (!t) 0 (side (!t) y r) := by
  rw [e, side_rep hr hy, runs_rep, Nat.zero_add, side_swap t r y]
  by_cases h : r = y
  · have hq : q ≠ 0 := by
      intro hq
      rw [hq, Nat.zero_mul] at e
      omega
    obtain ⟨p, rfl⟩ : ∃ p, q = p + 1 := ⟨q - 1, by omega⟩
    rw [h, side_same]
    rfl
  · rw [side_more hr (by omega)]
    have e1 : runsOn t q ((!t) :: side (!t) (y - r) r) = q :: runsOn (!t) 1 (side (!t) (y - r) r) := by
      cases q <;> simp [runsOn, not_ne]
    have e2 : runsOn (!t) 0 ((!t) :: side (!t) (y - r) r) = runsOn (!t) 1 (side (!t) (y - r) r) := by
      simp [runsOn]
    rw [e1, e2]
theorem ints_cons (q : Nat) (l : List Nat) : Rb40Neutral.ints (q :: l) = (q : Int) :: Rb40Neutral.ints l := rfl
/-- Between two turns of the loop: what is told so far, and the rest by what is left. -/
structure Inv (a b : Int) (rs : List Int) (x y : Int) : Prop where
  is : ∃ t : Bool, Rb40Neutral.ints (runs (path a.toNat b.toNat)) = rs ++ Rb40Neutral.ints (runsOn t 0 (side t x.toNat y.toNat))
/-- The word of the loop. -/
structure Word (a b : Int) (rs : List Int) (x y : Int) : Prop where
  x0 : 0 < x
  y0 : 0 < y
  x1 : x ≤ 5000
  y1 : y ≤ 5000
  len : (rs.length : Int) + 2 * y + x ≤ 15000
  inv : Inv a b rs x y
theorem start {a b : Int} (a0 : 1 ≤ a) (a1 : a ≤ 5000) (b0 : 1 ≤ b) (b1 : b ≤ 5000) : Word a b [] a b :=
  ⟨by omega, by omega, by omega, by omega, by simp; omega, ⟨⟨true, rfl⟩⟩⟩
theorem quot (x y : Int) : x = Int.fdiv x y * y + Int.fmod x y := by
  rw [Int.fmod_def, Int.mul_comm]
  omega
theorem turn {a b : Int} {rs : List Int} {x y : Int} (h : Word a b rs x y) (hne : x ≠ y) :
    Word a b (rs ++ [Int.fdiv (x - 1) y]) y (x - Int.fdiv (x - 1) y * y) ∧ 2 * (x - Int.fdiv (x - 1) y * y) + y < 2 * y + x := by
  obtain ⟨x0, y0, x1, y1, len, ⟨⟨t, e⟩⟩⟩ := h
  have e0 := quot (x - 1) y
  have r0 := Int.fmod_nonneg_of_pos (x - 1) y0
  have r1 := Int.fmod_lt_of_pos (x - 1) y0
  have q0 : 0 ≤ Int.fdiv (x - 1) y := by
    rw [Int.fdiv_eq_ediv_of_nonneg _ (by omega)]
    exact Int.ediv_nonneg (by omega) (by omega)
  generalize Int.fdiv (x - 1) y = q at *
  generalize Int.fmod (x - 1) y = r at *
  have er : x - q * y = r + 1 := by omega
  rw [er]
  -- x < y: the rest is x itself; else it is less than x
  have fall : 2 * (r + 1) + y < 2 * y + x := by
    by_cases h : x ≤ y
    · have hq : q * y < y := by omega
      have : q = 0 := by
        rcases (by omega : q = 0 ∨ 1 ≤ q) with h0 | h0
        · exact h0
        · have := Int.mul_le_mul_of_nonneg_right h0 (Int.le_of_lt y0)
          omega
      rw [this, Int.zero_mul] at er
      omega
    · omega
  refine ⟨⟨by omega, by omega, by omega, by omega, ?_, ⟨⟨!t, ?_⟩⟩⟩, fall⟩
  · simp only [List.length_append, List.length_singleton]
    omega
  · have en : x.toNat = q.toNat * y.toNat + (r + 1).toNat := by
      have hq : ((q.toNat : Nat) : Int) = q := Int.toNat_of_nonneg q0
      have hy : ((y.toNat : Nat) : Int) = y := Int.toNat_of_nonneg (by omega)
      have hx : ((x.toNat : Nat) : Int) = x := Int.toNat_of_nonneg (by omega)
      have hr : (((r + 1).toNat : Nat) : Int) = r + 1 := Int.toNat_of_nonneg (by omega)
      have : ((x.toNat : Nat) : Int) = ((q.toNat * y.toNat + (r + 1).toNat : Nat) : Int) := by
        rw [Int.natCast_add, Int.natCast_mul, hq, hy, hx, hr]
        omega
      exact Int.ofNat_inj.mp this
    rw [e, step (t := t) (by omega) (by omega) en (by omega) (by omega), ints_cons, Int.toNat_of_nonneg q0, List.append_assoc]
    rfl
theorem whole {a b : Int} {rs : List Int} {x y : Int} (h : Word a b rs x y) (e : x = y) : ((rs.length : Nat) : Int) :: rs = PyRb40.turns a b := by
  obtain ⟨x0, y0, x1, y1, len, ⟨⟨t, h⟩⟩⟩ := h
  subst e
  rw [side_same] at h
  have e : Rb40Neutral.ints (runsOn t 0 []) = [] := by cases t <;> rfl
  rw [e, List.append_nil] at h
  show _ = ((runs (path a.toNat b.toNat)).length : Int) :: Rb40Neutral.ints (runs (path a.toNat b.toNat))
  rw [← h]
  unfold Rb40Neutral.ints
  rw [List.length_map]
end S01
namespace S01
theorem startC {a b : Int} (a0 : 1 ≤ a) (a1 : a ≤ 5000) (b0 : 1 ≤ b) (b1 : b ≤ 5000) :
    0 < a ∧ 0 < b ∧ a ≤ 5000 ∧ b ≤ 5000 ∧ (([] : List Int).length : Int) + 2 * b + a ≤ 15000 ∧ Inv a b [] a b :=
  ⟨by omega, by omega, by omega, by omega, by simp; omega, ⟨⟨true, rfl⟩⟩⟩
theorem turnC {a b : Int} {rs : List Int} {x y : Int} (h : Inv a b rs x y) (hne : ¬ x = y) (x0 : 0 < x) (y0 : 0 < y) (x1 : x ≤ 5000) (y1 : y ≤ 5000) (len : (rs.length : Int) + 2 * y + x ≤ 15000) :
    0 < y ∧ 0 < x - Int.fdiv (x - 1) y * y ∧ y ≤ 5000 ∧ x - Int.fdiv (x - 1) y * y ≤ 5000 ∧ ((rs ++ [Int.fdiv (x - 1) y]).length : Int) + 2 * (x - Int.fdiv (x - 1) y * y) + y ≤ 15000 ∧ Inv a b (rs ++ [Int.fdiv (x - 1) y]) y (x - Int.fdiv (x - 1) y * y) := by
  obtain ⟨⟨p1, p2, p3, p4, p5, p6⟩, _⟩ := turn (Word.mk x0 y0 x1 y1 len h) hne
  exact ⟨p1, p2, p3, p4, p5, p6⟩
theorem lessC {x y : Int} (hne : ¬ x = y) (x0 : 0 < x) (y0 : 0 < y) (x1 : x ≤ 5000) (y1 : y ≤ 5000) :
    (2 * (x - Int.fdiv (x - 1) y * y) + y).toNat < (2 * y + x).toNat := by
  obtain ⟨w, l⟩ := turn (Word.mk x0 y0 x1 y1 (by simp; omega) ⟨⟨true, rfl⟩⟩ : Word x y [] x y) hne
  have := w.x0
  have := w.y0
  omega
theorem wholeC {a b : Int} {rs : List Int} {x y : Int} (h : Inv a b rs x y) (e : x = y) (x0 : 0 < x) (y0 : 0 < y) (x1 : x ≤ 5000) (y1 : y ≤ 5000) (len : (rs.length : Int) + 2 * y + x ≤ 15000) :
    [((rs.length : Nat) : Int)] ++ rs = PyRb40.turns a b := whole (Word.mk x0 y0 x1 y1 len h) e
section
open PySem.Calls PyProof.Rows
variable {prog : Program} {w : World} {A : Around} {E : Value → Shared → Prop} {s : Shared} {x y : Int} {t u : Tok} {Q : Value → Shared → Prop}
theorem step_div (hy : 0 < y) (hs : y ≤ 100000) (h : Q (.int (Int.fdiv x y) s.toks) { s with toks := s.toks + 1 }) :
    wpAny (model prog w) A (binaryOp .FloorDiv (.int x t) (.int y u)) Q E s :=
  PyProof.Rows.floordiv_int (by omega) h (Or.inl (PyProof.noPylong_small (by omega)))
theorem step_mul (lo : -100000 ≤ y) (hi : y ≤ 100000) (h : Q (.int (x * y) s.toks) { s with toks := s.toks + 1 }) :
    wpAny (model prog w) A (binaryOp .Mult (.int x t) (.int y u)) Q E s :=
  PyProof.Rows.mul_int h (PySem.IntMulOk.of_right (PySem.intBits_le_64 (by omega) (by omega)))
end
end S01
open PySem PySem.W PyProof.Rows
local macro_rules | `(tactic| walk_at "binaryOp FloorDiv int int") => `(tactic| (k_here; (with_reducible refine' S01.step_div ?k1 ?k2 ?_); (case k1 => k_dflt omega); (case k2 => k_dflt omega)))
local macro_rules | `(tactic| walk_at "binaryOp Mult int int") => `(tactic| (k_here; (with_reducible refine' S01.step_mul ?k1 ?k2 ?_); (case k1 => k_dflt omega); (case k2 => k_dflt omega)))
example : Int → Int → List Int → List Int → Int → Int → Prop := fun a b _ rs x y => 0 < x ∧ 0 < y ∧ x ≤ 5000 ∧ y ≤ 5000 ∧ (rs.length : Int) + 2 * y + x ≤ 15000 ∧ S01.Inv a b rs x y
set_option maxRecDepth 100000 in
set_option maxHeartbeats 8000000 in
theorem PySem.Challenge.cw_turnstree_s01_turns_holds : PySem.Challenge.rw_turnstree_s01_turns.Holds := by
  k_with "state" => first
    | exact S01.startC (by omega) (by omega) (by omega) (by omega)
    | exact S01.turnC (by assumption) (by omega) (by omega) (by omega) (by omega) (by omega) (by omega)
  k_with "measure" => exact S01.lessC (by omega) (by omega) (by omega) (by omega) (by omega)
  k_with "exec While Compare cons nil" => k_while_given ["a", "b"] (fun a b _ rs x y => 0 < x ∧ 0 < y ∧ x ≤ 5000 ∧ y ≤ 5000 ∧ (rs.length : Int) + 2 * y + x ≤ 15000 ∧ S01.Inv a b rs x y) (fun _ _ _ _ x y => (2 * y + x).toNat) "runs" "first" "second"
  open_ks0 with [.int 1, .int 1]
  have noInts : IntsAre ([] : List Value) ([] : List Int) := IntsAre.nil
  with_reducible rename OpenSpec.pre _ _ = true => osPre
  obtain ⟨h1, h2⟩ := Req.dec_cons (os_pre_isSome osPre)
  obtain ⟨e1, lo1, hi1⟩ := Req.dec_int h1
  obtain ⟨e2, lo2, hi2⟩ := Req.dec_int h2
  ks_steps
  refine os_post (Req.dec_join e1 e2) ?_
  refine Req.same_list ?_
  exact S01.wholeC (by assumption) (by omega) (by omega) (by omega) (by omega) (by omega) (by omega)
#print axioms PySem.Challenge.cw_turnstree_s01_turns_holds
