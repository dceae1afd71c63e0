/- Runs and gaps lie in turn: the walk of RunsTile, in pure terms; the page's example. -/
import Derived.Test.YtbodklppgcloiaaDoorRuP
namespace Go.Proofs.YtbodklppgcloiaaDoor
open Go.RowKit Go.Shelf
set_option linter.unusedVariables false

/-- how many runs and gaps there have been -/
def Alt (s : By) (m p a b : Nat) : Prop := (p = 0 ∧ a = 0 ∧ b = 0) ∨ (0 < p ∧ bitAt s (p - 1) = true ∧ (p < m → bitAt s p = false) ∧ a = b + (if bitAt s 0 then 1 else 0)) ∨ (0 < p ∧ bitAt s (p - 1) = false ∧ (p < m → bitAt s p = true) ∧ b + (if bitAt s 0 then 1 else 0) = a + 1)
structure TileI (s r : By) (m p a b : Nat) : Prop where
  meet : Meet s r m p
  ha : a = (rl s (p + 1)).1.length
  hb : b = (rl r (p + 1)).1.length
  alt : Alt s m p a b
theorem rl_start (s : By) (k : Nat) : ∀ x ∈ (rl s k).1, bitAt s x.1 = true := by
  induction k with
  | zero => intro x hx; simp [rl] at hx
  | succ k ih =>
    intro x hx
    cases hv : bitAt s k
    · by_cases hl : (rl s k).2 < k
      · rw [rl_out hv hl] at hx
        rcases List.mem_append.1 hx with h | h
        · exact ih x h
        · simp at h; subst h; exact rl_full s k _ (Nat.le_refl _) hl
      · rw [rl_gap hv hl] at hx; exact ih x hx
    · rw [rl_in hv] at hx; exact ih x hx
theorem runs_at {s : By} {m q : Nat} {L : List (Nat × Nat)} {x : Nat × Nat} (hq : q ≤ m) (h : (rl s (q + 1)).1 = L ++ [x]) : (runsL s m)[L.length]? = some x := by
  obtain ⟨t, ht⟩ := rl_pre s (a := q + 1) (b := m + 1) (by omega)
  show (rl s (m + 1)).1[L.length]? = _
  rw [← ht, h, List.append_assoc, List.getElem?_append_right (Nat.le_refl _)]
  simp
theorem tile_start {s r : By} {m : Nat} : TileI s r m 0 0 0 := by
  obtain ⟨h1, h2, h3⟩ := meet_start (a := s) (b := r) (n := m)
  exact ⟨h1, by rw [h2]; rfl, by rw [h3]; rfl, .inl ⟨rfl, rfl, rfl⟩⟩
theorem tile_run {s r : By} {m p a b : Nat} (hr : Rest s r m) (h : TileI s r m p a b) (hp : p < m) (hb : bitAt s p = true) : ∃ q, p < q ∧ q ≤ m ∧ (runsL s m)[a]? = some (p, q) ∧ TileI s r m q (a + 1) b := by
  obtain ⟨q, h1, h2, h3, h4, h5, h6, h7⟩ := meet_step hr h.meet hp hb
  refine ⟨q, h1, h2, ?_, ⟨h5, by rw [h6, List.length_append, h.ha]; rfl, by rw [h7, h.hb], ?_⟩⟩
  · rw [h.ha]; exact runs_at h2 h6
  · refine .inr (.inl ⟨by omega, h3, fun _ => h4, ?_⟩)
    rcases h.alt with ⟨e1, e2, e3⟩ | ⟨_, _, e3, _⟩ | ⟨_, _, _, e4⟩
    · subst e1 e2 e3; rw [hb]; simp
    · rw [e3 hp] at hb; cases hb
    · omega
theorem tile_gap {s r : By} {m p a b : Nat} (hr : Rest s r m) (h : TileI s r m p a b) (hp : p < m) (hb : bitAt s p = false) : ∃ q, p < q ∧ q ≤ m ∧ (runsL r m)[b]? = some (p, q) ∧ TileI s r m q a (b + 1) := by
  have hbr : bitAt r p = true := by rw [hr.not p hp, hb]; rfl
  obtain ⟨q, h1, h2, h3, h4, h5, h6, h7⟩ := meet_step hr.symm h.meet.symm hp hbr
  refine ⟨q, h1, h2, ?_, ⟨h5.symm, by rw [h7, h.ha], by rw [h6, List.length_append, h.hb]; rfl, ?_⟩⟩
  · rw [h.hb]; exact runs_at h2 h6
  · have h3' : bitAt s (q - 1) = false := by rw [hr.symm.not (q - 1) (by omega), h3]; rfl
    refine .inr (.inr ⟨by omega, h3', fun h => by rw [hr.symm.not q h, h4]; rfl, ?_⟩)
    rcases h.alt with ⟨e1, e2, e3⟩ | ⟨_, _, _, e4⟩ | ⟨_, _, e3, _⟩
    · subst e1 e2 e3; rw [hb]; simp
    · omega
    · rw [e3 hp] at hb; cases hb
theorem tile_end {s r : By} {m a b : Nat} (h : TileI s r m m a b) : a = (runsL s m).length ∧ b = (runsL r m).length ∧ a ≤ b + 1 ∧ b ≤ a + 1 := by
  refine ⟨h.ha, h.hb, ?_⟩
  rcases h.alt with ⟨_, e2, e3⟩ | ⟨_, _, _, e4⟩ | ⟨_, _, _, e4⟩
  · omega
  · split at e4 <;> omega
  · split at e4 <;> omega
theorem rest_of {n : Nat} {s : By} (hc : chk n s = true) : Rest s (restL n s) n := by
  obtain ⟨r1, r2, r3⟩ := rest_facts hc
  exact ⟨fun i hi => chk_hi hc i hi, fun i hi => chk_hi r1 i hi, fun i hi => by rw [r2, decide_eq_true hi]; rfl⟩

/-! the page's example -/
theorem ex_runs : runsL [167, 1] 10 = [(0, 3), (5, 6), (7, 9)] := by decide
theorem putS_one {n : Nat} (h : n < 256) : putS n 1 = ([UInt8.ofNat n], 0) := by
  unfold putS
  rw [if_neg (by omega), if_neg (by
    rintro (h1 | h1)
    · omega
    · exact h1 (Int.ediv_eq_zero_of_lt (by omega) (by show (n : Int) < 256; omega)))]
  have : putB (n : Int) (1 : Int).toNat = [UInt8.ofNat n] := by
    show putB (n : Int) 1 = _
    simp [putB]
    unfold byteAt
    have e1 : (n : Int) / 2 ^ (8 * 0) % 256 = n := by simp; omega
    rw [e1]
    unfold byteOf
    apply UInt8.toNat_inj.1
    simp
  rw [this]
theorem wNum_one {p : By} {n : Nat} (h : n < 256) (hp : p.length < 65536) : wNum (p, 0) n 1 = (p ++ [UInt8.ofNat n], 0) := by
  unfold wNum
  rw [putS_one h]
  rw [if_neg (by simp)]
  unfold wRaw
  rw [if_neg (by simp), if_neg (by simp; omega)]
theorem wrap64_nat {a : Int} {n : Nat} (h : a = n) (hn : n < 256) : wrap64 a = n := by
  subst h
  unfold wrap64
  omega
theorem pk_one (p : By) (x1 x2 en : Nat) (a b : Nat) (hp : p.length < 1000) (h1 : x1 = en + a) (h2 : x2 = x1 + b) (ha : a < 256) (hb : b < 256) : pkStep ((p, 0), en) (x1, x2) = ((p ++ [UInt8.ofNat a] ++ [UInt8.ofNat b], 0), x2) := by
  subst h1 h2
  unfold pkStep
  simp only
  rw [wrap64_nat (a := ((en + a : Nat) : Int) - (en : Int)) (n := a) (by omega) ha, wrap64_nat (a := ((en + a + b : Nat) : Int) - ((en + a : Nat) : Int)) (n := b) (by omega) hb, wNum_one ha (by omega), wNum_one hb (by simp; omega)]
theorem ex_packS : packS [(0, 3), (5, 6), (7, 9)] = (([0, 3, 2, 1, 1, 2], 0), 9) := by
  unfold packS
  rw [List.foldl_cons, List.foldl_cons, List.foldl_cons, List.foldl_nil]
  rw [pk_one [] 0 3 0 0 3 (by decide) (by omega) (by omega) (by omega) (by omega), pk_one _ 5 6 3 2 1 (by decide) (by omega) (by omega) (by omega) (by omega), pk_one _ 7 9 6 1 2 (by decide) (by omega) (by omega) (by omega) (by omega)]
  rfl
theorem ex_pack : packR 10 [167, 1] = [0, 3, 2, 1, 1, 2] ∧ packE 10 [167, 1] = 0 := by
  have h1 : chkI 10 [167, 1] = true := by decide
  unfold packR packE
  rw [if_pos h1, if_pos h1, show (10 : Int).toNat = 10 from rfl, ex_runs, ex_packS]
  exact ⟨rfl, rfl⟩
theorem ex_text : textR 10 [167, 1] = [48, 45, 50, 44, 53, 44, 55, 45, 56] := by
  unfold textR
  rw [if_pos (by decide), show (10 : Int).toNat = 10 from rfl, ex_runs]
  simp [textL, partL, Lib.join, Lib.decDigits_one]
theorem ex_of : ofR 10 [0, 1, 2, 5, 7, 8] = [167, 1] ∧ ofE 10 [0, 1, 2, 5, 7, 8] = 0 := by decide
theorem ex_ofs : ofsE 10 [167, 1] = 0 := by decide
end Go.Proofs.YtbodklppgcloiaaDoor
