/- choke: the document's May. -/
import Derived.Test.YtjndgglbapghhaaCkZ
namespace Go.Proofs.Ytjndgglbapghhaa
open Go.RowKit Go.Sort
set_option linter.unusedVariables false
attribute [local go_sem] Oper.semAt_some

def lastN : Int → List Pr → Int
  | k, [] => k
  | _, p :: l => lastN (p.nd + 1) l
theorem arP_snoc : ∀ (k : Int) (m : List Pr) (p : Pr), arP k (m ++ [p]) = (arP k m && (decide (lastN k m ≤ p.nd) && decide (p.nd ≤ 15) && okP p.x p.y))
  | k, [], p => by
    simp only [List.nil_append, arP, lastN, Bool.and_true, Bool.true_and]
    by_cases h1 : p.nd < k
    · simp [h1, Int.not_le.2 h1]
    · by_cases h2 : 15 < p.nd
      · simp [h2, Int.not_le.2 h2]
      · simp [h1, h2, Int.not_lt.1 h1, Int.not_lt.1 h2]
  | k, a :: m, p => by
    simp only [List.cons_append, arP, lastN, arP_snoc (a.nd + 1) m p, Bool.and_assoc]
    rfl
theorem arP_pre : ∀ (k : Int) (m r : List Pr), arP k m = false → arP k (m ++ r) = false
  | _, [], _, h => by simp [arP] at h
  | k, a :: m, r, h => by
    simp only [List.cons_append, arP] at *
    cases h1 : (!(decide (a.nd < k) || decide (15 < a.nd)) && okP a.x a.y) with
    | false => rw [Bool.false_and]
    | true =>
      rw [h1, Bool.true_and] at h
      rw [Bool.true_and, arP_pre _ m r h]
theorem arP_stop {l : List Pr} {i : Nat} (h : arP 1 (l.take i) = false) : arP 1 l = false := by
  have := arP_pre 1 (l.take i) (l.drop i) h
  rwa [List.take_append_drop] at this
theorem lastN_ge : ∀ (k : Int) (m : List Pr), arP k m = true → k ≤ lastN k m
  | k, [], _ => Int.le_refl _
  | k, a :: m, h => by
    simp only [arP, Bool.and_eq_true] at h
    have := lastN_ge _ m h.2
    have h1 := h.1.1
    simp at h1
    show k ≤ lastN (a.nd + 1) m
    omega
theorem lastN_snoc : ∀ (k : Int) (m : List Pr) (p : Pr), lastN k (m ++ [p]) = p.nd + 1
  | _, [], _ => rfl
  | _, a :: m, p => lastN_snoc (a.nd + 1) m p
/-- is the next one as it must be behind the one ahead of it? -/
def nxB (q : Option Pr) (p : Pr) : Bool := okP p.x p.y && (isPr p.nd && (match q with | none => true | some q => decide (q.nd < p.nd)))
theorem arP_step {l : List Pr} {i : Nat} (h : i < l.length) (ha : arP 1 (l.take i) = true) : arP 1 (l.take (i + 1)) = nxB (if i = 0 then none else l[i - 1]?) l[i] := by
  rw [List.take_succ_eq_append_getElem h, arP_snoc, ha, Bool.true_and]
  have hb : ∀ u v : Bool, (u = true ↔ v = true) → u = v := fun u v h => by cases u <;> cases v <;> simp_all
  apply hb
  unfold nxB isPr
  by_cases h0 : i = 0
  · subst h0
    simp only [List.take_zero, lastN, if_true, Bool.and_eq_true, decide_eq_true_iff]
    constructor
    · rintro ⟨⟨h1, h2⟩, h3⟩; exact ⟨h3, ⟨h1, h2⟩, trivial⟩
    · rintro ⟨h3, ⟨h1, h2⟩, _⟩; exact ⟨⟨h1, h2⟩, h3⟩
  · have hi : i - 1 < l.length := by omega
    have e : l.take i = l.take (i - 1) ++ [l[i - 1]] := by
      have := List.take_succ_eq_append_getElem hi
      rwa [show i - 1 + 1 = i by omega] at this
    have hge := lastN_ge 1 (l.take i) ha
    rw [if_neg h0, List.getElem?_eq_getElem hi]
    simp only [Bool.and_eq_true, decide_eq_true_iff]
    rw [e, lastN_snoc] at hge ⊢
    constructor
    · rintro ⟨⟨h1, h2⟩, h3⟩; exact ⟨h3, ⟨by omega, h2⟩, by omega⟩
    · rintro ⟨h3, ⟨h1, h2⟩, h4⟩; exact ⟨⟨by omega, h2⟩, h3⟩
/-- can one choose? -/
def mayB (s x y : Int) (l : List Pr) : Bool := decide (0 ≤ s ∧ s ≤ 8) && okP x y && arP 1 l
set_option maxRecDepth 100000 in
set_option maxHeartbeats 8000000 in
theorem dmay_any (a0 : Option Addr) (l : List Pr) (c : Nat) (s x y : Int) (w : World) (hl : PrsAt w a0 l) (hm : l.length ≤ 100000) :
    Calls Try.prog 14 #[.slice a0 l.length c, .int .i64 s, rv x y] w fun e w' => e = .returned (.bool (mayB s x y l)) ∧ Below w.heap.size w w' := by
  have HC := hide (fun W => dcheck_any x y W)
  have HL := hide hl
  have B0 : Hid (Below w.heap.size w (w.alloc (.cells #[.int .i64 x, .int .i64 y] 37))) := (Below.refl _ w).alloc (Nat.le_refl _) _
  have T0 := hide (two_alloc w (.int .i64 x) (.int .i64 y) 37)
  have f0 := (unhide T0).c0
  have f1 := (unhide T0).c1
  obtain ⟨n, hn⟩ : ∃ n, n = l.length := ⟨_, rfl⟩
  rw [← hn] at hm ⊢
  have HN := hide hn
  have HV := hide (show mayB s x y l = (decide (0 ≤ s ∧ s ≤ 8) && okP x y && arP 1 l) from rfl)
  clear hl hn
  generalize mayB s x y l = V at *
  generalize okP x y = P at *
  unfold rv at *
  by_cases q0 : s < 0
  · have HV2 : Hid (V = false) := (unhide HV).trans (by rw [decide_eq_false (by omega)]; rfl)
    clear HV
    go_enter Try.func14, Try.ntmps14
    go_wp2
    go_ret
    exact ⟨by rw [unhide HV2]; rfl, unhide B0⟩
  by_cases q1 : 8 < s
  · have HV2 : Hid (V = false) := (unhide HV).trans (by rw [decide_eq_false (by omega)]; rfl)
    clear HV
    go_enter Try.func14, Try.ntmps14
    go_wp2
    go_ret
    exact ⟨by rw [unhide HV2]; rfl, unhide B0⟩
  have HV1 : Hid (V = (P && arP 1 l)) := (unhide HV).trans (by rw [decide_eq_true (by omega), Bool.true_and])
  clear HV
  cases P with
  | false =>
    go_enter Try.func14, Try.ntmps14
    go_wp2_with fail
    refine (unhide HC _).mono ?_
    rintro e w1 ⟨rfl, b1⟩
    have B1 := hide ((unhide B0).trans (b1.mono (unhide B0).size))
    clear b1
    go_wp2
    go_ret
    exact ⟨by rw [unhide HV1]; rfl, unhide B1⟩
  | true =>
  have HV2 : Hid (V = arP 1 l) := (unhide HV1).trans (Bool.true_and _)
  clear HV1
  go_enter Try.func14, Try.ntmps14
  go_wp2_with fail
  refine (unhide HC _).mono ?_
  rintro e w1 ⟨rfl, b1⟩
  have B1 := hide ((unhide B0).trans (b1.mono (unhide B0).size))
  clear b1 f0 f1 T0 B0 HC
  go_wp2_with fail
  go_loopw [7] (fun v wr => ∃ k : Nat, k ≤ n ∧ v = .int .i64 k ∧ arP 1 (l.take k) = true ∧ Below w.heap.size w wr) (fun v _ => n - (intOf v).toNat)
  case atStart => exact ⟨0, by omega, rfl, by rw [List.take_zero]; rfl, unhide B1⟩
  case round =>
    clear B1
    obtain ⟨k, hkn, rfl, hA, hB⟩ := hrel
    have HA := hide hA
    have HB := hide hB
    clear hA hB
    by_cases hlt : k < n
    · have hlt' : k < l.length := by rw [← unhide HN]; exact hlt
      obtain ⟨p, hp⟩ : ∃ p, p = l[k] := ⟨_, rfl⟩
      obtain ⟨g, o, rfl, hgl, hra⟩ := prs_range (unhide HL) (unhide HB) (i := k) (p := p) (by rw [hp]; exact List.getElem?_eq_getElem hlt')
      have hst := arP_step hlt' (unhide HA)
      rw [← hp] at hst
      have HST := hide hst
      have u0 : wr.cell? ⟨g, o + k * 10, none⟩ = some (.int .i64 p.nd) := hra 0 _ rfl
      have u1 : wr.cell? ⟨g, o + k * 10 + 1, none⟩ = some (.int .i64 p.x) := hra 1 _ rfl
      have u2 : wr.cell? ⟨g, o + k * 10 + 2, none⟩ = some (.int .i64 p.y) := hra 2 _ rfl
      have U0 := hide u0
      have U1 := hide u1
      have U2 := hide u2
      have q2 : (k : Int) < n := by omega
      have HCP := hide (fun W => dcheck_any p.x p.y W)
      have HIP := hide (fun W => dIsPeer_any p.nd W)
      have hprev : Hid (∀ j, k = j + 1 → ∃ q, l[j]? = some q ∧ wr.cell? ⟨g, o + j * 10, none⟩ = some (.int .i64 q.nd)) := fun j hj => by
        have hj2 : j < l.length := by omega
        obtain ⟨g', o', e, _, hr⟩ := prs_range (unhide HL) (unhide HB) (i := j) (p := l[j]) (List.getElem?_eq_getElem hj2)
        cases e
        exact ⟨_, List.getElem?_eq_getElem hj2, hr 0 _ rfl⟩
      clear hst hp hlt' hra u0 u1 u2
      obtain ⟨nd, px, py, hv, wa, op, os, se, nw, ra⟩ := p
      dsimp only at HCP HIP U0 U1 U2
      have HNX : Hid (∀ q, nxB q ⟨nd, px, py, hv, wa, op, os, se, nw, ra⟩ = (okP px py && (isPr nd && (match q with | none => true | some q => decide (q.nd < nd))))) := fun q => rfl
      generalize okP px py = P1 at *
      generalize isPr nd = I1 at *
      unfold rv at *
      cases P1 with
      | false =>
        have HF : Hid (V = false) := (unhide HV2).trans (arP_stop ((unhide HST).trans (by rw [unhide HNX]; rfl)))
        go_wp2_with fail
        refine wp_region_grB (by kernel_rfl) (by kernel_rfl) ?_
        have hne := gb_ne wr
        have p0 : ∀ z : Gb wr, z.w.cell? ⟨g, o + k * 10, none⟩ = _ := fun z => gb_cell (unhide U0) z
        have p1 : ∀ z : Gb wr, z.w.cell? ⟨g, o + k * 10 + 1, none⟩ = _ := fun z => gb_cell (unhide U1) z
        have p2 : ∀ z : Gb wr, z.w.cell? ⟨g, o + k * 10 + 2, none⟩ = _ := fun z => gb_cell (unhide U2) z
        repeat (go_big_quiet_step (first | (go_at_call 33; exact gb_call (unhide HCP _)) | (go_at_call 34; exact gb_same (unhide HIP _))))
        refine wpQuiet_nil ?_
        rintro w7 ⟨⟨_, b7⟩, rfl⟩
        have B7 := hide ((unhide HB).trans (b7.mono (unhide HB).size))
        clear b7 p0 p1 p2 hne U0 U1 U2
        go_wp2
        go_ret
        exact ⟨by rw [unhide HF]; rfl, unhide B7⟩
      | true =>
      cases I1 with
      | false =>
        have HF : Hid (V = false) := (unhide HV2).trans (arP_stop ((unhide HST).trans (by rw [unhide HNX]; rfl)))
        go_wp2_with fail
        refine wp_region_grB (by kernel_rfl) (by kernel_rfl) ?_
        have hne := gb_ne wr
        have p0 : ∀ z : Gb wr, z.w.cell? ⟨g, o + k * 10, none⟩ = _ := fun z => gb_cell (unhide U0) z
        have p1 : ∀ z : Gb wr, z.w.cell? ⟨g, o + k * 10 + 1, none⟩ = _ := fun z => gb_cell (unhide U1) z
        have p2 : ∀ z : Gb wr, z.w.cell? ⟨g, o + k * 10 + 2, none⟩ = _ := fun z => gb_cell (unhide U2) z
        repeat (go_big_quiet_step (first | (go_at_call 33; exact gb_call (unhide HCP _)) | (go_at_call 34; exact gb_same (unhide HIP _))))
        refine wpQuiet_nil ?_
        rintro w7 ⟨⟨_, b7⟩, rfl⟩
        have B7 := hide ((unhide HB).trans (b7.mono (unhide HB).size))
        clear b7 p0 p1 p2 hne U0 U1 U2
        go_wp2
        go_ret
        exact ⟨by rw [unhide HF]; rfl, unhide B7⟩
      | true =>
      rcases Nat.eq_zero_or_pos k with hk0 | hk0
      · have qz : ¬ (0 : Int) < (k : Int) := by omega
        have qz2 : decide (0 < k) = false := decide_eq_false (by omega)
        have HK0 := hide hk0
        clear hk0
        have HF : Hid (arP 1 (l.take (k + 1)) = true) := (unhide HST).trans (by rw [if_pos (unhide HK0), unhide HNX]; rfl)
        go_wp2_with fail
        refine wp_region_grB (by kernel_rfl) (by kernel_rfl) ?_
        have hne := gb_ne wr
        have p0 : ∀ z : Gb wr, z.w.cell? ⟨g, o + k * 10, none⟩ = _ := fun z => gb_cell (unhide U0) z
        have p1 : ∀ z : Gb wr, z.w.cell? ⟨g, o + k * 10 + 1, none⟩ = _ := fun z => gb_cell (unhide U1) z
        have p2 : ∀ z : Gb wr, z.w.cell? ⟨g, o + k * 10 + 2, none⟩ = _ := fun z => gb_cell (unhide U2) z
        repeat (go_big_quiet_step (first | (go_at_call 33; exact gb_call (unhide HCP _)) | (go_at_call 34; exact gb_same (unhide HIP _))))
        refine wpQuiet_nil ?_
        rintro w7 ⟨⟨_, b7⟩, rfl⟩
        have B7 := hide ((unhide HB).trans (b7.mono (unhide HB).size))
        clear b7 p0 p1 p2 hne U0 U1 U2
        go_wp2
        go_roundw
        case rel => exact ⟨k + 1, by omega, by go_num, unhide HF, unhide B7⟩
        case measure => simp [intOf]; omega
      · obtain ⟨j, hj⟩ : ∃ j, k = j + 1 := ⟨k - 1, by omega⟩
        obtain ⟨q, hq, hqc⟩ := unhide hprev j hj
        have qz : (0 : Int) < (k : Int) := by omega
        have qz2 : decide (0 < k) = true := decide_eq_true (by omega)
        have qj : (k : Int) - 1 = (j : Int) := by omega
        have qn : (j : Int) < n := by omega
        have HQ := hide hqc
        have HK0 : Hid ((if k = 0 then none else l[k - 1]?) = some q) := by
          show _ = _
          rw [if_neg (by omega), show k - 1 = j by omega]
          exact hq
        clear hq hqc hj
        by_cases hqp : q.nd < nd
        · have qd : decide (nd ≤ q.nd) = false := decide_eq_false (by omega)
          have HF : Hid (arP 1 (l.take (k + 1)) = true) := (unhide HST).trans (by rw [unhide HK0, unhide HNX]; simp [hqp])
          go_wp2_with fail
          refine wp_region_grB (by kernel_rfl) (by kernel_rfl) ?_
          have hne := gb_ne wr
          have p0 : ∀ z : Gb wr, z.w.cell? ⟨g, o + k * 10, none⟩ = _ := fun z => gb_cell (unhide U0) z
          have p1 : ∀ z : Gb wr, z.w.cell? ⟨g, o + k * 10 + 1, none⟩ = _ := fun z => gb_cell (unhide U1) z
          have p2 : ∀ z : Gb wr, z.w.cell? ⟨g, o + k * 10 + 2, none⟩ = _ := fun z => gb_cell (unhide U2) z
          have p3 : ∀ z : Gb wr, z.w.cell? ⟨g, o + j * 10, none⟩ = _ := fun z => gb_cell (unhide HQ) z
          repeat (go_big_quiet_step (first | (go_at_call 33; exact gb_call (unhide HCP _)) | (go_at_call 34; exact gb_same (unhide HIP _))))
          refine wpQuiet_nil ?_
          rintro w7 ⟨⟨_, b7⟩, rfl⟩
          have B7 := hide ((unhide HB).trans (b7.mono (unhide HB).size))
          clear b7 p0 p1 p2 hne U0 U1 U2 p3 HQ
          go_wp2
          go_roundw
          case rel => exact ⟨k + 1, by omega, by go_num, unhide HF, unhide B7⟩
          case measure => simp [intOf]; omega
        · have qd : decide (nd ≤ q.nd) = true := decide_eq_true (by omega)
          have HF : Hid (V = false) := (unhide HV2).trans (arP_stop ((unhide HST).trans (by rw [unhide HK0, unhide HNX]; simp; omega)))
          go_wp2_with fail
          refine wp_region_grB (by kernel_rfl) (by kernel_rfl) ?_
          have hne := gb_ne wr
          have p0 : ∀ z : Gb wr, z.w.cell? ⟨g, o + k * 10, none⟩ = _ := fun z => gb_cell (unhide U0) z
          have p1 : ∀ z : Gb wr, z.w.cell? ⟨g, o + k * 10 + 1, none⟩ = _ := fun z => gb_cell (unhide U1) z
          have p2 : ∀ z : Gb wr, z.w.cell? ⟨g, o + k * 10 + 2, none⟩ = _ := fun z => gb_cell (unhide U2) z
          have p3 : ∀ z : Gb wr, z.w.cell? ⟨g, o + j * 10, none⟩ = _ := fun z => gb_cell (unhide HQ) z
          repeat (go_big_quiet_step (first | (go_at_call 33; exact gb_call (unhide HCP _)) | (go_at_call 34; exact gb_same (unhide HIP _))))
          refine wpQuiet_nil ?_
          rintro w7 ⟨⟨_, b7⟩, rfl⟩
          have B7 := hide ((unhide HB).trans (b7.mono (unhide HB).size))
          clear b7 p0 p1 p2 hne U0 U1 U2 p3 HQ
          go_wp2
          go_ret
          exact ⟨by rw [unhide HF]; rfl, unhide B7⟩
    · have hkn2 : k = n := by omega
      have HF : Hid (V = true) := by
        have h := unhide HA
        rw [show l.take k = l by rw [hkn2, unhide HN, List.take_length]] at h
        exact (unhide HV2).trans h
      have q1 : ¬ (k : Int) < n := by omega
      clear hkn2 HA
      go_wp2
      go_ret
      exact ⟨by rw [unhide HF]; rfl, unhide HB⟩
end Go.Proofs.Ytjndgglbapghhaa
