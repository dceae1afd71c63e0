/- What the document reads of a text (mathematics). -/
import Derived.Test.YtbodklppgcloiaaDoorTxR
namespace Go.Proofs.YtbodklppgcloiaaDoor
open Go.RowKit Go.Shelf
set_option linter.unusedVariables false

/-- the numbers from a on, q of them, below n -/
def flN (n : Nat) (a : Int) : Nat → List Int
  | 0 => []
  | q + 1 => flN n a q ++ [a + (q : Int)]
theorem flN_len (n : Nat) (a : Int) (q : Nat) : (flN n a q).length = q := by
  induction q with
  | zero => rfl
  | succ q ih => rw [flN, List.length_append, ih]; rfl
theorem flN_eq (n : Nat) (a : Int) (q : Nat) : flN n a q = (List.range q).map fun (i : Nat) => a + (i : Int) := by
  induction q with
  | zero => rfl
  | succ q ih => rw [flN, ih, List.range_succ, List.map_append]; rfl
/-- how many are put in: those from lo to x that are below n -/
def flC (n : Nat) (lo x : Int) : Nat := (min (x + 1) n - lo).toNat
/-- the numbers that are put in where a part ends -/
def flP (n : Nat) (lo x : Int) : List Int := flN n (if lo < 0 then x else lo) (flC n (if lo < 0 then x else lo) x)
/-- one sign more -/
def stp (n : Nat) (q : List Int × Int × Int) (c : UInt8) : List Int × Int × Int :=
  if (48 ≤ c.toNat ∧ c.toNat ≤ 57) ∧ q.2.2 ≤ 160 then (q.1, q.2.1, 10 * q.2.2 + c.toNat - 48) else if c.toNat = 45 then (q.1, q.2.2, 0) else (q.1 ++ flP n q.2.1 q.2.2, -1, 0)
def rdS (n : Nat) (t : By) : List Int × Int × Int := t.foldl (stp n) ([], -1, 0)
/-- all numbers -/
def rdN (n : Nat) (t : By) : List Int := (rdS n t).1 ++ flP n (rdS n t).2.1 (rdS n t).2.2
theorem rdS_snoc (n : Nat) (t : By) (c : UInt8) : rdS n (t ++ [c]) = stp n (rdS n t) c := by simp [rdS]
theorem flP_len {n : Nat} (hn : n ≤ 160) (lo x : Int) (hl : -1 ≤ lo) (hx : 0 ≤ x) : (flP n lo x).length ≤ 160 := by
  unfold flP flC
  rw [flN_len]
  split <;> omega
theorem rdS_bound {n : Nat} (hn : n ≤ 160) (t : By) : (rdS n t).1.length ≤ 160 * t.length ∧ (-1 ≤ (rdS n t).2.1 ∧ (rdS n t).2.1 ≤ 1609) ∧ (0 ≤ (rdS n t).2.2 ∧ (rdS n t).2.2 ≤ 1609) := by
  have key : ∀ k, k ≤ t.length → (rdS n (t.take k)).1.length ≤ 160 * k ∧ (-1 ≤ (rdS n (t.take k)).2.1 ∧ (rdS n (t.take k)).2.1 ≤ 1609) ∧ (0 ≤ (rdS n (t.take k)).2.2 ∧ (rdS n (t.take k)).2.2 ≤ 1609) := by
    intro k
    induction k with
    | zero => intro _; simp [rdS]
    | succ k ih =>
      intro hk
      obtain ⟨h1, h2, h3⟩ := ih (by omega)
      rw [List.take_succ_eq_append_getElem (by omega), rdS_snoc]
      generalize rdS n (t.take k) = q at *
      unfold stp
      split
      · rename_i hc; simp only; omega
      · split
        · simp only; omega
        · have := flP_len hn q.2.1 q.2.2 h2.1 h3.1
          simp only [List.length_append]
          omega
  have := key t.length (Nat.le_refl _)
  rwa [List.take_length] at this
theorem dig_toNat {k : Nat} (h : k < 10) : (UInt8.ofNat (48 + k)).toNat = 48 + k := by rw [UInt8.toNat_ofNat']; omega
theorem stp_dig (n : Nat) (N : List Int) (lo : Int) (x k : Nat) (hx : x ≤ 160) (hk : k < 10) : stp n (N, lo, (x : Int)) (UInt8.ofNat (48 + k)) = (N, lo, ((10 * x + k : Nat) : Int)) := by
  unfold stp
  rw [dig_toNat hk]
  simp only
  rw [if_pos ⟨by omega, by omega⟩]
  congr 2
  omega
theorem scan_dec (n : Nat) (N : List Int) (lo : Int) {k : Nat} (hk : k < 161) : (Lib.decDigits k).foldl (stp n) (N, lo, 0) = (N, lo, (k : Int)) := by
  rw [dec_dd (by omega)]
  unfold dd
  rw [show (0 : Int) = ((0 : Nat) : Int) from rfl]
  by_cases h1 : k < 10
  · rw [if_pos h1]
    simp only [List.foldl_cons, List.foldl_nil]
    rw [stp_dig n N lo 0 k (by omega) h1]
    congr 2; omega
  · rw [if_neg h1]
    by_cases h2 : k < 100
    · rw [if_pos h2]
      simp only [List.foldl_cons, List.foldl_nil]
      rw [stp_dig n N lo 0 (k / 10) (by omega) (by omega), stp_dig n N lo _ (k % 10) (by omega) (by omega)]
      congr 2; omega
    · rw [if_neg h2]
      simp only [List.foldl_cons, List.foldl_nil]
      rw [stp_dig n N lo 0 (k / 10 / 10) (by omega) (by omega), stp_dig n N lo _ (k / 10 % 10) (by omega) (by omega), stp_dig n N lo _ (k % 10) (by omega) (by omega)]
      congr 2; omega
/-- a run's numbers -/
def spN (x : Nat × Nat) : List Int := (List.range (x.2 - x.1)).map fun (i : Nat) => (x.1 : Int) + (i : Int)
theorem scan_part {n : Nat} (hn : n ≤ 160) (N : List Int) {x : Nat × Nat} (h1 : x.1 < x.2) (h2 : x.2 ≤ n) : ∃ lo y, (partL x).foldl (stp n) (N, -1, 0) = (N, lo, y) ∧ flP n lo y = spN x := by
  unfold partL
  by_cases he : x.1 + 1 = x.2
  · rw [if_pos he, scan_dec n N (-1) (by omega)]
    refine ⟨-1, x.1, rfl, ?_⟩
    unfold flP flC spN
    rw [if_pos (by omega), flN_eq, show (min ((x.1 : Int) + 1) n - x.1).toNat = x.2 - x.1 by omega]
  · rw [if_neg he, List.foldl_append, scan_dec n N (-1) (by omega), List.foldl_cons]
    have hs : stp n (N, -1, (x.1 : Int)) 45 = (N, (x.1 : Int), 0) := by
      unfold stp
      rw [if_neg (by rintro ⟨⟨h, _⟩, _⟩; revert h; decide), if_pos (by decide)]
    rw [hs, scan_dec n N _ (by omega)]
    refine ⟨_, _, rfl, ?_⟩
    unfold flP flC spN
    rw [if_neg (by omega), flN_eq, show (min (((x.2 - 1 : Nat) : Int) + 1) n - x.1).toNat = x.2 - x.1 by omega]
theorem scan_join {n : Nat} (hn : n ≤ 160) : ∀ (l : List (Nat × Nat)) (N : List Int), l ≠ [] → (∀ x ∈ l, x.1 < x.2 ∧ x.2 ≤ n) → ∃ M lo y, (Lib.join (l.map partL) [44]).foldl (stp n) (N, -1, 0) = (M, lo, y) ∧ M ++ flP n lo y = N ++ l.flatMap spN
  | [], N, h, _ => absurd rfl h
  | [x], N, _, hx => by
    obtain ⟨lo, y, h1, h2⟩ := scan_part hn N (hx x (by simp)).1 (hx x (by simp)).2
    refine ⟨N, lo, y, ?_, by rw [h2]; simp⟩
    rw [show Lib.join ([x].map partL) [44] = partL x from Lib.join_one _ _, h1]
  | x :: z :: l, N, _, hx => by
    obtain ⟨lo, y, h1, h2⟩ := scan_part hn N (hx x (by simp)).1 (hx x (by simp)).2
    have hs : stp n (N, lo, y) 44 = (N ++ spN x, -1, 0) := by
      unfold stp
      rw [if_neg (by rintro ⟨⟨h, _⟩, _⟩; revert h; decide), if_neg (by decide)]
      simp only [h2]
    obtain ⟨M, lo', y', h3, h4⟩ := scan_join hn (z :: l) (N ++ spN x) (by simp) (fun u hu => hx u (by simp [List.mem_cons.1 hu]))
    refine ⟨M, lo', y', ?_, by rw [h4]; simp⟩
    rw [show Lib.join ((x :: z :: l).map partL) [44] = partL x ++ 44 :: Lib.join ((z :: l).map partL) [44] from join_more _ _ _, List.foldl_append, h1, List.foldl_cons, hs, h3]
theorem nums_flat (l : List (Nat × Nat)) : gNums (toI l) = l.flatMap spN := by
  unfold gNums toI spN
  rw [List.flatMap_map]
  congr 1
  funext x
  simp only
  congr 2
  omega
/-- the document's numbers -/
def docN (n : Nat) (t : By) : List Int := if t = [45] then [] else rdN n t
theorem doc_nums {n : Nat} (hn : n ≤ 160) {l : List (Nat × Nat)} (h : gOk n (toI l)) : docN n (textL l) = gNums (toI l) := by
  have hp : ∀ x ∈ l, x.1 < x.2 ∧ x.2 ≤ n := fun x hx => by
    have := ok_all h ((x.1 : Int), (x.2 : Int)) (List.mem_map.2 ⟨x, hx, rfl⟩)
    simp only at this
    omega
  have hw := wr_text hn h
  unfold docN
  by_cases hl : l = []
  · subst hl; rfl
  · have hne : textL l ≠ [45] := by
      intro he
      rw [he] at hw
      have h1 : wrB [45] = [] := by unfold wrB; rw [if_pos rfl]
      rw [h1] at hw
      cases l with
      | nil => exact hl rfl
      | cons x l => simp [toI] at hw
    rw [if_neg hne]
    obtain ⟨M, lo, y, h1, h2⟩ := scan_join hn l [] hl hp
    have ht : textL l = Lib.join (l.map partL) [44] := by unfold textL; rw [if_neg hl]
    unfold rdN rdS
    rw [ht, h1]
    simp only
    rw [h2, nums_flat]; simp
noncomputable def redE' (n : Int) (t : By) : Int := gatE n 3 (wrB t)
noncomputable def redR' (n : Int) (t : By) : By := gatR n (wrB t)
theorem text_eq {n : Nat} {s : By} (hc : chk n s = true) : textR n s = textL (runsL s n) := by
  unfold textR
  rw [if_pos (by rw [chkI_nat]; exact hc), Int.toNat_natCast]
theorem doc_read (n : Nat) (hn : n ≤ 160) (t : By) : (textR n (mkL n (docN n t)) = t ∧ gatR n (wrB t) = mkL n (docN n t) ∧ gatE n 3 (wrB t) = 0) ∨ (textR n (mkL n (docN n t)) ≠ t ∧ gatR n (wrB t) = [] ∧ gatE n 3 (wrB t) = 3) := by
  have hc := mkL_chk n hn (docN n t)
  by_cases hok : gOk n (wrB t)
  · obtain ⟨l, l1, l2⟩ := wr_read hn hok
    rw [← l1] at hok
    have hd := doc_nums hn hok
    rw [l2] at hd
    have hu := uniq_runs hok (mkL n (docN n t)) (fun i => by rw [mkL_bit, hd, cov_gNums])
    have hr := toI_inj hu
    refine .inl ⟨by rw [text_eq hc, hr, l2], ?_⟩
    have := gat_runs hc 3
    rw [hu, l1] at this
    exact this
  · refine .inr ⟨fun h => hok ?_, ?_, ?_⟩
    · rw [text_eq hc] at h
      have h2 := wr_text hn (runs_ok hc)
      rw [h] at h2
      rw [h2]
      exact runs_ok hc
    · unfold gatR
      rw [if_neg (fun h => hok h.2)]
    · unfold gatE
      rw [if_neg (fun h => h (by omega)), if_neg hok]
end Go.Proofs.YtbodklppgcloiaaDoor
