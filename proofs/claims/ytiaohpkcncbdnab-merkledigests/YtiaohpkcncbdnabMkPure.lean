/- Trees of digests, plainly: the levels, the tree, paths and what they fold to. Nothing of the program. -/
namespace Go.Proofs.Ytiaohpkcncbdnab
set_option linter.unusedVariables false

abbrev By := List UInt8
abbrev Prt := By × List By

section
variable (H : By → By)

def leafT (s : By) : By := 0 :: s
def knotT (l r : By) : By := 1 :: (l ++ r)
def leafP (s : By) : Prt := (H (leafT s), [leafT s])
def joinP (a b : Prt) : Prt := (H (knotT a.1 b.1), a.2 ++ b.2 ++ [knotT a.1 b.1])

/-- parts joined by twos -/
def abv : List Prt → List Prt
  | a :: b :: r => joinP H a b :: abv r
  | l => l
def abvN : Nat → List Prt → List Prt
  | 0, l => l
  | j + 1, l => abv H (abvN j l)

theorem abv_length : ∀ l : List Prt, (abv H l).length = (l.length + 1) / 2
  | [] => rfl
  | [a] => by simp [abv]
  | a :: b :: r => by
    rw [abv, List.length_cons, abv_length r]
    simp only [List.length_cons]
    omega
theorem abv_append : ∀ (a b : List Prt), a.length % 2 = 0 → abv H (a ++ b) = abv H a ++ abv H b
  | [], b, _ => rfl
  | [x], b, h => by simp at h
  | x :: y :: r, b, h => by
    have hr : r.length % 2 = 0 := by simp only [List.length_cons] at h; omega
    rw [List.cons_append, List.cons_append, abv, abv_append r b hr, abv, List.cons_append]

/-- how many of n are left, level by level -/
def cl : Nat → Nat → Nat
  | 0, n => n
  | t + 1, n => (cl t n + 1) / 2
theorem abvN_length (t : Nat) (l : List Prt) : (abvN H t l).length = cl t l.length := by
  induction t with
  | zero => rfl
  | succ t ih => rw [abvN, abv_length, ih, cl]
theorem cl_add (t m b : Nat) : cl t (2 ^ t * m + b) = m + cl t b := by
  induction t generalizing m with
  | zero => simp [cl]
  | succ t ih =>
    rw [cl, cl, show 2 ^ (t + 1) * m = 2 ^ t * (2 * m) by rw [Nat.pow_succ, Nat.mul_assoc], ih]
    omega
theorem cl_zero (t : Nat) : cl t 0 = 0 := by
  induction t with
  | zero => rfl
  | succ t ih => rw [cl, ih]
theorem cl_mul (t m : Nat) : cl t (2 ^ t * m) = m := by
  have := cl_add t m 0
  rw [cl_zero] at this
  exact this
theorem cl_one (t n : Nat) (h1 : 1 ≤ n) (h2 : n ≤ 2 ^ t) : cl t n = 1 := by
  induction t generalizing n with
  | zero => simp [cl]; simp at h2; omega
  | succ t ih =>
    by_cases h : n ≤ 2 ^ t
    · rw [cl, ih n h1 h]
    · have e : n = 2 ^ t * 1 + (n - 2 ^ t) := by omega
      rw [Nat.pow_succ] at h2
      rw [cl, e, cl_add, ih (n - 2 ^ t) (by omega) (by omega)]
theorem cl_pos (t n : Nat) (h : 1 ≤ n) : 1 ≤ cl t n := by
  induction t with
  | zero => exact h
  | succ t ih => rw [cl]; omega
theorem cl_le (t n : Nat) : cl t n ≤ n := by
  induction t with
  | zero => exact Nat.le_refl _
  | succ t ih => rw [cl]; omega
theorem cl_gt (t n : Nat) (h : 2 ^ t < n) : 1 < cl t n := by
  have e : n = 2 ^ t * 1 + (n - 2 ^ t) := by omega
  rw [e, cl_add]
  have := cl_pos t (n - 2 ^ t) (by omega)
  omega
theorem abvN_append (t m : Nat) (a b : List Prt) (h : a.length = 2 ^ t * m) : abvN H t (a ++ b) = abvN H t a ++ abvN H t b := by
  induction t generalizing m with
  | zero => rfl
  | succ t ih =>
    have h' : a.length = 2 ^ t * (2 * m) := by rw [h, Nat.pow_succ, Nat.mul_assoc]
    rw [abvN, ih (2 * m) h', abv_append, abvN, abvN]
    rw [abvN_length, h', cl_mul]
    omega

/-- the greatest power of 2 below n -/
def half (n : Nat) : Nat := 2 ^ Nat.log2 (n - 1)
theorem half_lt (n : Nat) (h : 2 ≤ n) : half n < n := by
  have := Nat.log2_self_le (n := n - 1) (by omega)
  unfold half
  omega
theorem half_ge (n : Nat) (h : 2 ≤ n) : n ≤ 2 * half n := by
  have := Nat.lt_log2_self (n := n - 1)
  unfold half
  rw [Nat.pow_succ] at this
  omega
theorem half_pos (n : Nat) : 1 ≤ half n := Nat.one_le_two_pow
theorem half_eq (n j : Nat) (h1 : 2 ^ j < n) (h2 : n ≤ 2 ^ (j + 1)) : half n = 2 ^ j := by
  unfold half
  congr 1
  rw [Nat.log2_eq_iff (by omega)]
  omega

def treeP (l : List Prt) : Prt :=
  if h : l.length ≤ 1 then l.headD ([], []) else joinP H (treeP (l.take (half l.length))) (treeP (l.drop (half l.length)))
termination_by l.length
decreasing_by
  · have := half_lt l.length (by omega)
    rw [List.length_take]; omega
  · have := half_pos l.length
    rw [List.length_drop]; omega
theorem treeP_one (p : Prt) : treeP H [p] = p := by rw [treeP]; simp
theorem treeP_more (l : List Prt) (h : 2 ≤ l.length) : treeP H l = joinP H (treeP H (l.take (half l.length))) (treeP H (l.drop (half l.length))) := by
  rw [treeP, dif_neg (by omega)]

/-- the levels come to the tree -/
theorem abvN_tree (t : Nat) (l : List Prt) (h1 : 1 ≤ l.length) (h2 : l.length ≤ 2 ^ t) : abvN H t l = [treeP H l] := by
  induction t generalizing l with
  | zero =>
    match l, h1, h2 with
    | [p], _, _ => rw [treeP_one, abvN]
    | a :: b :: r, _, h => simp at h
  | succ t ih =>
    by_cases h : l.length ≤ 2 ^ t
    · rw [abvN, ih l h1 h]; rfl
    · have hh := half_eq l.length t (by omega) h2
      have hp : 1 ≤ 2 ^ t := Nat.one_le_two_pow
      have hp2 : 2 ^ (t + 1) = 2 ^ t * 2 := Nat.pow_succ ..
      rw [treeP_more H l (by omega), hh]
      have hta : (l.take (2 ^ t)).length = 2 ^ t := by rw [List.length_take]; omega
      have hdr : (l.drop (2 ^ t)).length = l.length - 2 ^ t := List.length_drop ..
      have e := abvN_append H t 1 (l.take (2 ^ t)) (l.drop (2 ^ t)) (by omega)
      rw [List.take_append_drop] at e
      rw [abvN, e, ih _ (by omega) (by omega), ih _ (by omega) (by omega)]
      rfl

/-- the partner of the i-th -/
def pt (i : Nat) : Nat := if i % 2 = 0 then i + 1 else i - 1
def stepP (l : List Prt) (i : Nat) : List By := match l[pt i]? with | some p => [p.1] | none => []
def pathN : Nat → List Prt → Nat → List By
  | 0, _, _ => []
  | j + 1, l, i => pathN j l i ++ stepP (abvN H j l) (i / 2 ^ j)
def way (l : List Prt) (i : Nat) : List By :=
  if h : l.length ≤ 1 then [] else
    if i < half l.length then way (l.take (half l.length)) i ++ [(treeP H (l.drop (half l.length))).1] else way (l.drop (half l.length)) (i - half l.length) ++ [(treeP H (l.take (half l.length))).1]
termination_by l.length
decreasing_by
  · have := half_lt l.length (by omega)
    rw [List.length_take]; omega
  · have := half_pos l.length
    rw [List.length_drop]; omega
theorem way_one (l : List Prt) (i : Nat) (h : l.length ≤ 1) : way H l i = [] := by rw [way, dif_pos h]
theorem way_left (l : List Prt) (i : Nat) (h : 2 ≤ l.length) (hi : i < half l.length) : way H l i = way H (l.take (half l.length)) i ++ [(treeP H (l.drop (half l.length))).1] := by
  rw [way, dif_neg (by omega), if_pos hi]
theorem way_right (l : List Prt) (i : Nat) (h : 2 ≤ l.length) (hi : ¬ i < half l.length) : way H l i = way H (l.drop (half l.length)) (i - half l.length) ++ [(treeP H (l.take (half l.length))).1] := by
  rw [way, dif_neg (by omega), if_neg hi]

theorem two_pow_split {t j : Nat} (h : t ≤ j) : 2 ^ j = 2 ^ t * 2 ^ (j - t) := by rw [← Nat.pow_add]; congr 1; omega
theorem even_pow {t j : Nat} (h : t < j) : ∃ m, 2 ^ (j - t) = 2 * m := ⟨2 ^ (j - t - 1), by rw [Nat.mul_comm, ← Nat.pow_succ]; congr 1; omega⟩
theorem div_lt_pow {t j i : Nat} (h : t ≤ j) (hi : i < 2 ^ j) : i / 2 ^ t < 2 ^ (j - t) := by
  rw [Nat.div_lt_iff_lt_mul Nat.one_le_two_pow, Nat.mul_comm, ← two_pow_split h]
  exact hi
theorem div_past {t j i : Nat} (h : t ≤ j) (hi : 2 ^ j ≤ i) : i / 2 ^ t = 2 ^ (j - t) + (i - 2 ^ j) / 2 ^ t := by
  have e : i = 2 ^ t * 2 ^ (j - t) + (i - 2 ^ j) := by rw [← two_pow_split h]; omega
  conv => lhs; rw [e]
  rw [Nat.mul_add_div Nat.one_le_two_pow]
theorem pt_lt {i m : Nat} (h : i < 2 * m) : pt i < 2 * m := by unfold pt; split <;> omega
theorem pt_add (i m : Nat) : pt (2 * m + i) = 2 * m + pt i := by unfold pt; by_cases h : i % 2 = 0 <;> simp [h] <;> omega

theorem pathN_left (j : Nat) (a b : List Prt) (i t : Nat) (ha : a.length = 2 ^ j) (hi : i < 2 ^ j) (ht : t ≤ j) : pathN H t (a ++ b) i = pathN H t a i := by
  induction t with
  | zero => rfl
  | succ t ih =>
    rw [pathN, pathN, ih (by omega)]
    congr 1
    have hs := two_pow_split (show t ≤ j by omega)
    rw [abvN_append H t (2 ^ (j - t)) a b (by omega)]
    unfold stepP
    obtain ⟨m, hm⟩ := even_pow (show t < j by omega)
    rw [List.getElem?_append_left]
    rw [abvN_length, ha, hs, cl_mul, hm]
    refine pt_lt ?_
    rw [← hm]
    exact div_lt_pow (by omega) hi
theorem pathN_right (j : Nat) (a b : List Prt) (i t : Nat) (ha : a.length = 2 ^ j) (hi : 2 ^ j ≤ i) (ht : t ≤ j) : pathN H t (a ++ b) i = pathN H t b (i - 2 ^ j) := by
  induction t with
  | zero => rfl
  | succ t ih =>
    rw [pathN, pathN, ih (by omega)]
    congr 1
    have hs := two_pow_split (show t ≤ j by omega)
    rw [abvN_append H t (2 ^ (j - t)) a b (by omega)]
    unfold stepP
    obtain ⟨m, hm⟩ := even_pow (show t < j by omega)
    rw [div_past (show t ≤ j by omega) hi, hm, pt_add, List.getElem?_append_right]
    · rw [abvN_length, ha, hs, cl_mul, hm, Nat.add_sub_cancel_left]
    · rw [abvN_length, ha, hs, cl_mul, hm]; omega

theorem pathN_way (t : Nat) (l : List Prt) (i : Nat) (hi : i < l.length) (h2 : l.length ≤ 2 ^ t) : pathN H t l i = way H l i := by
  induction t generalizing l i with
  | zero => rw [way_one H l i (by simpa using h2)]; rfl
  | succ t ih =>
    rw [pathN]
    by_cases h : l.length ≤ 2 ^ t
    · rw [ih l i hi h, abvN_tree H t l (by omega) h]
      have : i / 2 ^ t = 0 := Nat.div_eq_of_lt (by omega)
      rw [this]
      simp [stepP, pt]
    · have hh := half_eq l.length t (by omega) h2
      have hp : 1 ≤ 2 ^ t := Nat.one_le_two_pow
      have hp2 : 2 ^ (t + 1) = 2 ^ t * 2 := Nat.pow_succ ..
      have hta : (l.take (2 ^ t)).length = 2 ^ t := by rw [List.length_take]; omega
      have hdr : (l.drop (2 ^ t)).length = l.length - 2 ^ t := List.length_drop ..
      have e := abvN_append H t 1 (l.take (2 ^ t)) (l.drop (2 ^ t)) (by omega)
      rw [List.take_append_drop] at e
      rw [e, abvN_tree H t _ (by omega) (by omega), abvN_tree H t _ (by omega) (by omega)]
      by_cases hk : i < 2 ^ t
      · have e1 := pathN_left H t (l.take (2 ^ t)) (l.drop (2 ^ t)) i t hta hk (Nat.le_refl _)
        rw [List.take_append_drop] at e1
        rw [e1, ih _ i (by omega) (by omega), way_left H l i (by omega) (by omega), hh, Nat.div_eq_of_lt hk]
        rfl
      · have e1 := pathN_right H t (l.take (2 ^ t)) (l.drop (2 ^ t)) i t hta (by omega) (Nat.le_refl _)
        rw [List.take_append_drop] at e1
        have e2 := div_past (Nat.le_refl t) (show 2 ^ t ≤ i by omega)
        rw [e1, ih _ (i - 2 ^ t) (by omega) (by omega), way_right H l i (by omega) (by omega), hh, e2, Nat.sub_self, Nat.pow_zero, Nat.div_eq_of_lt (show i - 2 ^ t < 2 ^ t by omega)]
        rfl

/-- on which side the partner stands, level by level: true: ahead -/
def planN : Nat → Nat → Nat → List Bool
  | 0, _, _ => []
  | j + 1, n, i => planN j n i ++ (if pt (i / 2 ^ j) < cl j n then [decide ((i / 2 ^ j) % 2 = 1)] else [])
def plan (n i : Nat) : List Bool :=
  if h : n ≤ 1 then [] else if i < half n then plan (half n) i ++ [false] else plan (n - half n) (i - half n) ++ [true]
termination_by n
decreasing_by
  · exact half_lt n (by omega)
  · have := half_pos n; omega
theorem plan_one (n i : Nat) (h : n ≤ 1) : plan n i = [] := by rw [plan, dif_pos h]
theorem plan_left (n i : Nat) (h : 2 ≤ n) (hi : i < half n) : plan n i = plan (half n) i ++ [false] := by rw [plan, dif_neg (by omega), if_pos hi]
theorem plan_right (n i : Nat) (h : 2 ≤ n) (hi : ¬ i < half n) : plan n i = plan (n - half n) (i - half n) ++ [true] := by rw [plan, dif_neg (by omega), if_neg hi]
theorem planN_left (j b i t : Nat) (hi : i < 2 ^ j) (ht : t ≤ j) : planN t (2 ^ j + b) i = planN t (2 ^ j) i := by
  induction t with
  | zero => rfl
  | succ t ih =>
    rw [planN, planN, ih (by omega)]
    congr 1
    have hs := two_pow_split (show t ≤ j by omega)
    obtain ⟨m, hm⟩ := even_pow (show t < j by omega)
    have hlt : pt (i / 2 ^ t) < 2 ^ (j - t) := by
      rw [hm]
      refine pt_lt ?_
      rw [← hm]
      exact div_lt_pow (by omega) hi
    rw [hs, cl_add, cl_mul, if_pos (by omega), if_pos hlt]
theorem planN_right (j b i t : Nat) (hi : 2 ^ j ≤ i) (ht : t ≤ j) : planN t (2 ^ j + b) i = planN t b (i - 2 ^ j) := by
  induction t with
  | zero => rfl
  | succ t ih =>
    rw [planN, planN, ih (by omega)]
    congr 1
    have hs := two_pow_split (show t ≤ j by omega)
    obtain ⟨m, hm⟩ := even_pow (show t < j by omega)
    rw [div_past (show t ≤ j by omega) hi, hm, pt_add]
    have ec : cl t (2 ^ j + b) = 2 * m + cl t b := by rw [hs, cl_add, hm]
    rw [ec]
    have e : (2 * m + (i - 2 ^ j) / 2 ^ t) % 2 = ((i - 2 ^ j) / 2 ^ t) % 2 := by omega
    rw [e]
    by_cases hc : pt ((i - 2 ^ j) / 2 ^ t) < cl t b
    · rw [if_pos hc, if_pos (by omega)]
    · rw [if_neg hc, if_neg (by omega)]
theorem planN_plan (t n i : Nat) (hi : i < n) (h2 : n ≤ 2 ^ t) : planN t n i = plan n i := by
  induction t generalizing n i with
  | zero => rw [plan_one n i (by simpa using h2)]; rfl
  | succ t ih =>
    rw [planN]
    have hp : 1 ≤ 2 ^ t := Nat.one_le_two_pow
    have hp2 : 2 ^ (t + 1) = 2 ^ t * 2 := Nat.pow_succ ..
    by_cases h : n ≤ 2 ^ t
    · rw [ih n i hi h, cl_one t n (by omega) h, Nat.div_eq_of_lt (by omega)]
      simp [pt]
    · have hh := half_eq n t (by omega) h2
      have en : n = 2 ^ t + (n - 2 ^ t) := by omega
      have ec : cl t n = 2 := by
        have h3 := cl_add t 1 (n - 2 ^ t)
        have h4 := cl_one t (n - 2 ^ t) (by omega) (by omega)
        rw [Nat.mul_one, ← en, h4] at h3
        exact h3
      rw [ec]
      by_cases hk : i < 2 ^ t
      · have e1 := planN_left t (n - 2 ^ t) i t hk (Nat.le_refl _)
        rw [← en] at e1
        rw [e1, ih _ i hk (Nat.le_refl _), plan_left n i (by omega) (by omega), hh, Nat.div_eq_of_lt hk]
        simp [pt]
      · have e1 := planN_right t (n - 2 ^ t) i t (by omega) (Nat.le_refl _)
        rw [← en] at e1
        have e2 := div_past (Nat.le_refl t) (show 2 ^ t ≤ i by omega)
        rw [e1, ih _ (i - 2 ^ t) (by omega) (by omega), plan_right n i (by omega) (by omega), hh, e2, Nat.sub_self, Nat.pow_zero, Nat.div_eq_of_lt (show i - 2 ^ t < 2 ^ t by omega)]
        simp [pt]
theorem plan_length (n i t : Nat) (hi : i < n) (h : n ≤ 2 ^ t) : (plan n i).length ≤ t := by
  rw [← planN_plan t n i hi h]
  clear h hi
  induction t with
  | zero => simp [planN]
  | succ t ih => rw [planN, List.length_append]; split <;> simp <;> omega
theorem way_length (l : List Prt) (i : Nat) (hi : i < l.length) : (way H l i).length = (plan l.length i).length := by
  induction hn : l.length using Nat.strongRecOn generalizing l i with
  | _ n ih =>
    by_cases h1 : l.length ≤ 1
    · rw [way_one H l i h1, plan_one _ _ (by omega)]; rfl
    · have hlt := half_lt l.length (by omega)
      have hps := half_pos l.length
      have hta : (l.take (half l.length)).length = half l.length := by rw [List.length_take]; omega
      have hdr : (l.drop (half l.length)).length = l.length - half l.length := List.length_drop ..
      by_cases hk : i < half l.length
      · rw [way_left H l i (by omega) hk, ← hn, plan_left _ _ (by omega) hk, List.length_append, List.length_append, ih _ (by omega) _ i (by omega) hta]
        rfl
      · rw [way_right H l i (by omega) hk, ← hn, plan_right _ _ (by omega) hk, List.length_append, List.length_append, ih _ (by omega) _ (i - half l.length) (by omega) hdr]
        rfl

/-- one knot up: the digest, and the texts -/
def knotS (p : By × List By) (x : Bool × By) : By × List By :=
  (H (if x.1 then knotT x.2 p.1 else knotT p.1 x.2), p.2 ++ [if x.1 then knotT x.2 p.1 else knotT p.1 x.2])
/-- what a digest folds to, and the texts on the way -/
def climbP (pl : List Bool) (d : By) (path : List By) : By × List By := (pl.zip path).foldl (knotS H) (d, [])
theorem climbP_snoc (pl : List Bool) (s : Bool) (d : By) (path : List By) (x : By) (h : pl.length = path.length) :
    climbP H (pl ++ [s]) d (path ++ [x]) = knotS H (climbP H pl d path) (s, x) := by
  unfold climbP
  rw [List.zip_append h, List.foldl_append]
  rfl
theorem climbP_nil (d : By) (pl : List Bool) : climbP H pl d [] = (d, []) := by unfold climbP; simp
theorem climbP_len (pl : List Bool) (d : By) (path : List By) (h : pl.length = path.length) : (climbP H pl d path).2.length = path.length := by
  have key : ∀ (l : List (Bool × By)) (q : By × List By), (l.foldl (knotS H) q).2.length = q.2.length + l.length := by
    intro l
    induction l with
    | nil => intro q; simp
    | cons x l ih => intro q; rw [List.foldl_cons, ih]; simp [knotS]; omega
  unfold climbP
  rw [key]
  simp [h]

/-- the path of a leaf folds to the root -/
theorem way_folds (l : List Prt) (i : Nat) (hi : i < l.length) : (climbP H (plan l.length i) (l[i]).1 (way H l i)).1 = (treeP H l).1 := by
  induction hn : l.length using Nat.strongRecOn generalizing l i with
  | _ n ih =>
    by_cases h1 : l.length ≤ 1
    · rw [way_one H l i h1, climbP_nil]
      match l, hi, h1 with
      | [p], hi, _ => simp at hi; subst hi; rw [treeP_one]; rfl
      | a :: b :: r, _, h => simp at h
    · have hlt := half_lt l.length (by omega)
      have hps := half_pos l.length
      have hta : (l.take (half l.length)).length = half l.length := by rw [List.length_take]; omega
      have hdr : (l.drop (half l.length)).length = l.length - half l.length := List.length_drop ..
      rw [treeP_more H l (by omega)]
      by_cases hk : i < half l.length
      · have := ih _ (by omega) (l.take (half l.length)) i (by omega) hta
        rw [List.getElem_take] at this
        rw [way_left H l i (by omega) hk, ← hn, plan_left _ _ (by omega) hk, climbP_snoc, knotS, this]
        · rfl
        · have h5 := way_length H (l.take (half l.length)) i (by omega)
          rw [hta] at h5
          exact h5.symm
      · have := ih _ (by omega) (l.drop (half l.length)) (i - half l.length) (by omega) hdr
        rw [List.getElem_drop] at this
        have ei : half l.length + (i - half l.length) = i := by omega
        simp only [ei] at this
        rw [way_right H l i (by omega) hk, ← hn, plan_right _ _ (by omega) hk, climbP_snoc, knotS, this]
        · rfl
        · have h5 := way_length H (l.drop (half l.length)) (i - half l.length) (by omega)
          rw [hdr] at h5
          exact h5.symm
theorem plan_double (n i : Nat) (hi : i < n) : (plan n i).length = 0 ∨ 2 ^ ((plan n i).length - 1) < n := by
  by_cases h1 : n ≤ 1
  · rw [plan_one n i h1]; exact .inl rfl
  · refine .inr ?_
    have hlt := half_lt n (by omega)
    have hge := half_ge n (by omega)
    have hps := half_pos n
    by_cases hk : i < half n
    · have h := plan_length (half n) i (Nat.log2 (n - 1)) hk (Nat.le_refl _)
      rw [plan_left n i (by omega) hk, List.length_append]
      have : 2 ^ ((plan (half n) i).length) ≤ half n := Nat.pow_le_pow_right (by omega) h
      simp only [List.length_cons, List.length_nil, Nat.add_sub_cancel]
      omega
    · have h := plan_length (n - half n) (i - half n) (Nat.log2 (n - 1)) (by omega) (by show _ ≤ half n; omega)
      rw [plan_right n i (by omega) hk, List.length_append]
      have : 2 ^ ((plan (n - half n) (i - half n)).length) ≤ half n := Nat.pow_le_pow_right (by omega) h
      simp only [List.length_cons, List.length_nil, Nat.add_sub_cancel]
      omega

/-- the texts of a tree end with the text whose digest the root is -/
theorem tree_last (l : List Prt) (h1 : 1 ≤ l.length) (hl : ∀ p ∈ l, ∃ t, p.2.getLast? = some t ∧ H t = p.1) : ∃ t, (treeP H l).2.getLast? = some t ∧ H t = (treeP H l).1 := by
  by_cases h : l.length ≤ 1
  · match l, h1, h with
    | [p], _, _ => rw [treeP_one]; exact hl p (by simp)
    | a :: b :: r, _, h => simp at h
  · rw [treeP_more H l (by omega)]
    exact ⟨_, by simp [joinP], rfl⟩
theorem tree_texts (l : List Prt) (h1 : 1 ≤ l.length) (hl : ∀ p ∈ l, p.2.length = 1) : (treeP H l).2.length = 2 * l.length - 1 := by
  induction hn : l.length using Nat.strongRecOn generalizing l with
  | _ n ih =>
    by_cases h : l.length ≤ 1
    · match l, h1, h with
      | [p], _, _ => rw [treeP_one, hl p (by simp)]; simp at hn; subst hn; rfl
      | a :: b :: r, _, h => simp at h
    · have hlt := half_lt l.length (by omega)
      have hps := half_pos l.length
      have hta : (l.take (half l.length)).length = half l.length := by rw [List.length_take]; omega
      have hdr : (l.drop (half l.length)).length = l.length - half l.length := List.length_drop ..
      rw [treeP_more H l (by omega)]
      unfold joinP
      simp only [List.length_append, List.length_cons, List.length_nil]
      rw [ih _ (by omega) _ (by omega) (fun p hp => hl p (List.mem_of_mem_take hp)) hta, ih _ (by omega) _ (by omega) (fun p hp => hl p (List.mem_of_mem_drop hp)) hdr]
      omega
theorem tree_mem (l : List Prt) (p : Prt) (hp : p ∈ l) : ∀ t ∈ p.2, t ∈ (treeP H l).2 := by
  induction hn : l.length using Nat.strongRecOn generalizing l with
  | _ n ih =>
    intro t ht
    by_cases h : l.length ≤ 1
    · match l, hp, h with
      | [q], hp, _ => rw [treeP_one]; simp at hp; subst hp; exact ht
      | a :: b :: r, _, h => simp at h
    · have hlt := half_lt l.length (by omega)
      have hps := half_pos l.length
      have hta : (l.take (half l.length)).length = half l.length := by rw [List.length_take]; omega
      have hdr : (l.drop (half l.length)).length = l.length - half l.length := List.length_drop ..
      rw [treeP_more H l (by omega)]
      unfold joinP
      rw [← List.take_append_drop (half l.length) l, List.mem_append] at hp
      rcases hp with hp | hp
      · have := ih _ (by omega) _ hp hta t ht
        simp [this]
      · have := ih _ (by omega) _ hp hdr t ht
        simp [this]
/-- the road's last text is the list's last one -/
theorem way_last (l : List Prt) (i : Nat) (hi : i < l.length) (h2 : 2 ≤ l.length) : ∃ t, (climbP H (plan l.length i) (l[i]).1 (way H l i)).2.getLast? = some t ∧ (treeP H l).2.getLast? = some t := by
  have hlt := half_lt l.length (by omega)
  have hps := half_pos l.length
  have hta : (l.take (half l.length)).length = half l.length := by rw [List.length_take]; omega
  have hdr : (l.drop (half l.length)).length = l.length - half l.length := List.length_drop ..
  rw [treeP_more H l (by omega)]
  by_cases hk : i < half l.length
  · have h5 := way_length H (l.take (half l.length)) i (by omega)
    rw [hta] at h5
    have := way_folds H (l.take (half l.length)) i (by omega)
    rw [List.getElem_take] at this
    simp only [hta] at this
    rw [way_left H l i (by omega) hk, plan_left _ _ (by omega) hk, climbP_snoc H _ _ _ _ _ h5.symm]
    unfold knotS
    rw [this]
    refine ⟨_, by simp; rfl, by simp [joinP]⟩
  · have h5 := way_length H (l.drop (half l.length)) (i - half l.length) (by omega)
    rw [hdr] at h5
    have := way_folds H (l.drop (half l.length)) (i - half l.length) (by omega)
    rw [List.getElem_drop] at this
    have ei : half l.length + (i - half l.length) = i := by omega
    simp only [ei, hdr] at this
    rw [way_right H l i (by omega) hk, plan_right _ _ (by omega) hk, climbP_snoc H _ _ _ _ _ h5.symm]
    unfold knotS
    rw [this]
    refine ⟨_, by simp; rfl, by simp [joinP]⟩

theorem tree_len32 (hH : ∀ t, (H t).length = 32) (l : List Prt) (h1 : 1 ≤ l.length) (hl : ∀ p ∈ l, p.1.length = 32) : (treeP H l).1.length = 32 := by
  by_cases h : l.length ≤ 1
  · match l, h1, h with
    | [p], _, _ => rw [treeP_one]; exact hl p (by simp)
    | a :: b :: r, _, h => simp at h
  · rw [treeP_more H l (by omega)]
    exact hH _
theorem climb_len32 (hH : ∀ t, (H t).length = 32) (pl : List Bool) (d : By) (path : List By) (hd : d.length = 32) : (climbP H pl d path).1.length = 32 := by
  have key : ∀ (l : List (Bool × By)) (q : By × List By), q.1.length = 32 → (l.foldl (knotS H) q).1.length = 32 := by
    intro l
    induction l with
    | nil => intro q h; exact h
    | cons x l ih => intro q h; rw [List.foldl_cons]; exact ih _ (hH _)
  exact key _ _ hd
theorem knot_inj {a b c d : By} (h : knotT a b = knotT c d) (hl : a.length = c.length) : a = c ∧ b = d := by
  unfold knotT at h
  exact List.append_inj (by simpa using h) hl

/-- what folds to the root is what stands there, or two unlike texts have one digest -/
theorem binds (hH : ∀ t, (H t).length = 32) (l : List Prt) (hl : ∀ p ∈ l, p.1.length = 32) (i : Nat) (hi : i < l.length) (d : By) (path : List By) (hd : d.length = 32) (hp : ∀ x ∈ path, x.length = 32)
    (hlen : path.length = (plan l.length i).length) (hroot : (climbP H (plan l.length i) d path).1 = (treeP H l).1) (hne : d ≠ (l[i]).1) :
    ∃ a b, a ∈ (treeP H l).2 ∧ b ∈ (climbP H (plan l.length i) d path).2 ∧ a ≠ b ∧ H a = H b := by
  induction hn : l.length using Nat.strongRecOn generalizing l i path with
  | _ n ih =>
    by_cases h : l.length ≤ 1
    · exfalso
      rw [plan_one _ _ h] at hroot hlen
      have : path = [] := List.eq_nil_of_length_eq_zero hlen
      rw [this, climbP_nil] at hroot
      match l, hi, h with
      | [p], hi, _ =>
        simp at hi
        subst hi
        rw [treeP_one] at hroot
        exact hne hroot
      | a :: b :: r, _, h => simp at h
    · have hlt := half_lt l.length (by omega)
      have hps := half_pos l.length
      have hta : (l.take (half l.length)).length = half l.length := by rw [List.length_take]; omega
      have hdr : (l.drop (half l.length)).length = l.length - half l.length := List.length_drop ..
      have lta : ∀ p ∈ l.take (half l.length), p.1.length = 32 := fun p hp => hl p (List.mem_of_mem_take hp)
      have ldr : ∀ p ∈ l.drop (half l.length), p.1.length = 32 := fun p hp => hl p (List.mem_of_mem_drop hp)
      have t32 := tree_len32 H hH _ (by omega) lta
      have d32 := tree_len32 H hH _ (by omega) ldr
      obtain ⟨rest, x, rfl⟩ : ∃ rest x, path = rest ++ [x] := by
        have hz : path ≠ [] := by
          intro hz
          rw [hz] at hlen
          by_cases hk : i < half l.length
          · rw [plan_left _ _ (by omega) hk] at hlen; simp at hlen
          · rw [plan_right _ _ (by omega) hk] at hlen; simp at hlen
        exact ⟨path.dropLast, path.getLast hz, (List.dropLast_concat_getLast hz).symm⟩
      have hpr : ∀ y ∈ rest, y.length = 32 := fun y hy => hp y (by simp [hy])
      have hx : x.length = 32 := hp x (by simp)
      rw [treeP_more H l (by omega)] at hroot ⊢
      subst hn
      by_cases hk : i < half l.length
      · rw [plan_left _ _ (by omega) hk] at hroot hlen ⊢
        have hlr : (plan (half l.length) i).length = rest.length := by simpa using hlen.symm
        rw [climbP_snoc H _ _ _ _ _ hlr] at hroot ⊢
        by_cases he : knotT (climbP H (plan (half l.length) i) d rest).1 x = knotT (treeP H (l.take (half l.length))).1 (treeP H (l.drop (half l.length))).1
        · obtain ⟨e1, e2⟩ := knot_inj he (by rw [t32]; exact climb_len32 H hH _ _ _ hd)
          obtain ⟨a, b, ha, hb, hab, hh⟩ := ih _ hlt (l.take (half l.length)) lta i (by omega) rest hpr (by rw [hta]; exact hlr.symm) (by rw [hta]; exact e1) (by rw [List.getElem_take]; exact hne) hta
          refine ⟨a, b, by simp [joinP, ha], ?_, hab, hh⟩
          simp [knotS, hb]
        · refine ⟨_, _, ?_, ?_, fun e => he e.symm, ?_⟩
          · simp [joinP]
          · simp [knotS]
          · simpa [knotS, joinP] using hroot.symm
      · rw [plan_right _ _ (by omega) hk] at hroot hlen ⊢
        have hlr : (plan (l.length - half l.length) (i - half l.length)).length = rest.length := by simpa using hlen.symm
        rw [climbP_snoc H _ _ _ _ _ hlr] at hroot ⊢
        by_cases he : knotT x (climbP H (plan (l.length - half l.length) (i - half l.length)) d rest).1 = knotT (treeP H (l.take (half l.length))).1 (treeP H (l.drop (half l.length))).1
        · obtain ⟨e1, e2⟩ := knot_inj he (by rw [t32]; exact hx)
          have ei : half l.length + (i - half l.length) = i := by omega
          obtain ⟨a, b, ha, hb, hab, hh⟩ := ih (l.length - half l.length) (by omega) (l.drop (half l.length)) ldr (i - half l.length) (by omega) rest hpr (by rw [hdr]; exact hlr.symm) (by rw [hdr]; exact e2) (by rw [List.getElem_drop]; simp only [ei]; exact hne) hdr
          refine ⟨a, b, by simp [joinP, ha], ?_, hab, hh⟩
          simp [knotS, hb]
        · refine ⟨_, _, ?_, ?_, fun e => he e.symm, ?_⟩
          · simp [joinP]
          · simp [knotS]
          · simpa [knotS, joinP] using hroot.symm
end

end Go.Proofs.Ytiaohpkcncbdnab
