/- Mathematics of elimination: lines, their sums, reduced lists, the program's way and the document's. -/
import Derived.Test.YtpcndjnhpjhjkaaDoorBlD
namespace Go.Proofs.YtpcndjnhpjhjkaaDoor
open Go.RowKit
set_option linter.unusedVariables false

theorem xorL_self (a : By) : xorL a a = List.replicate a.length 0 := by
  unfold xorL
  induction a with
  | nil => rfl
  | cons x a ih =>
    rw [List.zipWith_cons_cons, ih, List.length_cons, List.replicate_succ, UInt8.xor_self]
theorem xorL_nil_zero : ∀ (a : By), xorL (List.replicate a.length 0) a = a
  | [] => rfl
  | x :: a => by
    rw [List.length_cons, List.replicate_succ]
    show (0 ^^^ x) :: xorL (List.replicate a.length 0) a = x :: a
    rw [xorL_nil_zero a, UInt8.zero_xor]
theorem xorL_assoc : ∀ (a b c : By), xorL (xorL a b) c = xorL a (xorL b c)
  | [], _, _ => by simp [xorL]
  | _ :: _, [], _ => by simp [xorL]
  | _ :: _, _ :: _, [] => by simp [xorL]
  | x :: a, y :: b, z :: c => by
    show ((x ^^^ y) ^^^ z) :: xorL (xorL a b) c = (x ^^^ (y ^^^ z)) :: xorL a (xorL b c)
    rw [xorL_assoc a b c, UInt8.xor_assoc]
theorem xorL_comm : ∀ (a b : By), xorL a b = xorL b a
  | [], b => by cases b <;> rfl
  | _ :: _, [] => rfl
  | x :: a, y :: b => by
    show (x ^^^ y) :: xorL a b = (y ^^^ x) :: xorL b a
    rw [xorL_comm a b, UInt8.xor_comm]

/-! lines: a row as bits, and bytes -/
abbrev Ln := Nat × By
def addV (u v : Ln) : Ln := (u.1 ^^^ v.1, xorL u.2 v.2)
def zeroV (m : Nat) : Ln := (0, List.replicate m 0)
theorem addV_comm (u v : Ln) : addV u v = addV v u := by unfold addV; rw [Nat.xor_comm, xorL_comm]
theorem addV_assoc (u v x : Ln) : addV (addV u v) x = addV u (addV v x) := by unfold addV; simp only [Nat.xor_assoc, xorL_assoc]
theorem addV_zero {m : Nat} {u : Ln} (h : u.2.length = m) : addV u (zeroV m) = u := by
  subst h
  rw [addV_comm]
  unfold addV zeroV
  simp only [Nat.zero_xor, xorL_nil_zero]
theorem addV_self {m : Nat} {u : Ln} (h : u.2.length = m) : addV u u = zeroV m := by
  unfold addV zeroV
  rw [Nat.xor_self, xorL_self, h]
theorem addV_len {m : Nat} {u v : Ln} (h : u.2.length = m) (h2 : v.2.length = m) : (addV u v).2.length = m := by
  unfold addV
  simp only [xorL_length, h, h2, Nat.min_self]
theorem addV_bit (u v : Ln) (i : Nat) : (addV u v).1.testBit i = (u.1.testBit i ^^ v.1.testBit i) := by
  unfold addV
  rw [Nat.testBit_xor]
theorem zeroV_bit (m i : Nat) : (zeroV m).1.testBit i = false := by simp [zeroV]
theorem zeroV_len (m : Nat) : (zeroV m).2.length = m := by simp [zeroV]
/-- the sums of some of the lines -/
def Spn (m : Nat) (L : List Ln) (v : Ln) : Prop := ∃ l : List Ln, (∀ x ∈ l, x ∈ L) ∧ v = l.foldr (fun x a => addV a x) (zeroV m)
theorem Spn.zero {m : Nat} {L : List Ln} : Spn m L (zeroV m) := ⟨[], by simp, rfl⟩
theorem Spn.add {m : Nat} {L : List Ln} {v x : Ln} (h : Spn m L v) (hx : x ∈ L) : Spn m L (addV v x) := by
  obtain ⟨l, h1, h2⟩ := h
  refine ⟨x :: l, fun y hy => ?_, by rw [h2]; rfl⟩
  rcases List.mem_cons.1 hy with rfl | hy
  · exact hx
  · exact h1 y hy
theorem Spn.ind {m : Nat} {L : List Ln} {motive : (v : Ln) → Spn m L v → Prop} (zero : motive (zeroV m) Spn.zero) (add : ∀ {v x : Ln} (h : Spn m L v) (hx : x ∈ L), motive v h → motive (addV v x) (h.add hx)) {v : Ln} (h : Spn m L v) : motive v h := by
  obtain ⟨l, h1, rfl⟩ := h
  induction l with
  | nil => exact zero
  | cons x l ih => exact add ⟨l, fun y hy => h1 y (by simp [hy]), rfl⟩ (h1 x (by simp)) (ih (fun y hy => h1 y (by simp [hy])))
def Szd (m : Nat) (L : List Ln) : Prop := ∀ x ∈ L, x.2.length = m
theorem Spn.len {m : Nat} {L : List Ln} (hs : Szd m L) {v : Ln} (h : Spn m L v) : v.2.length = m := by
  induction h using Spn.ind with
  | zero => exact zeroV_len m
  | add _ hx ih => exact addV_len ih (hs _ hx)
theorem Spn.mem {m : Nat} {L : List Ln} (hs : Szd m L) {x : Ln} (h : x ∈ L) : Spn m L x := by
  have := Spn.add (Spn.zero (m := m)) h
  rwa [addV_comm, addV_zero (hs x h)] at this
theorem Spn.sum {m : Nat} {L : List Ln} (hs : Szd m L) {u v : Ln} (hu : Spn m L u) (hv : Spn m L v) : Spn m L (addV u v) := by
  induction hv using Spn.ind with
  | zero => rw [addV_zero (hu.len hs)]; exact hu
  | add _ hx ih => rw [← addV_assoc]; exact ih.add hx
theorem Spn.into {m : Nat} {L M : List Ln} (hs : Szd m M) (h : ∀ x ∈ L, Spn m M x) {v : Ln} (hv : Spn m L v) : Spn m M v := by
  induction hv using Spn.ind with
  | zero => exact .zero
  | add _ hx ih => exact ih.sum hs (h _ hx)
theorem Spn.sub {m : Nat} {L M : List Ln} (h : ∀ x ∈ L, x ∈ M) {v : Ln} (hv : Spn m L v) : Spn m M v := by
  induction hv using Spn.ind with
  | zero => exact .zero
  | add _ hx ih => exact ih.add (h _ hx)
/-- the same sums -/
def SameS (m : Nat) (L M : List Ln) : Prop := ∀ v, Spn m L v ↔ Spn m M v
theorem SameS.refl {m : Nat} {L : List Ln} : SameS m L L := fun _ => Iff.rfl
theorem SameS.symm {m : Nat} {L M : List Ln} (h : SameS m L M) : SameS m M L := fun v => (h v).symm
theorem SameS.trans {m : Nat} {L M K : List Ln} (h : SameS m L M) (h2 : SameS m M K) : SameS m L K := fun v => (h v).trans (h2 v)
theorem sameS_of {m : Nat} {L M : List Ln} (hL : Szd m L) (hM : Szd m M) (h1 : ∀ x ∈ L, Spn m M x) (h2 : ∀ x ∈ M, Spn m L x) : SameS m L M :=
  fun v => ⟨fun h => h.into hM h1, fun h => h.into hL h2⟩
theorem sameS_mem {m : Nat} {L M : List Ln} (h : ∀ x, x ∈ L ↔ x ∈ M) : SameS m L M :=
  fun v => ⟨fun hv => hv.sub (fun x hx => (h x).1 hx), fun hv => hv.sub (fun x hx => (h x).2 hx)⟩
/-! the first bit -/
def fb (r : Nat) : Nat := ((List.range 200).find? fun i => r.testBit i).getD 0
theorem exists_bit {r : Nat} (h : r ≠ 0) (hb : r < 2 ^ 200) : ∃ i, i < 200 ∧ r.testBit i = true := by
  obtain ⟨i, hi⟩ := Nat.exists_testBit_of_ne_zero h
  exact ⟨i, (Nat.pow_lt_pow_iff_right (by omega)).1 (Nat.lt_of_le_of_lt (Nat.ge_two_pow_of_testBit hi) hb), hi⟩
theorem fb_spec {r : Nat} (h : r ≠ 0) (hb : r < 2 ^ 200) : r.testBit (fb r) = true ∧ ∀ i, i < fb r → r.testBit i = false := by
  unfold fb
  cases hf : (List.range 200).find? fun i => r.testBit i with
  | none =>
    obtain ⟨i, hi, h1⟩ := exists_bit h hb
    rw [List.find?_eq_none] at hf
    exact absurd h1 (hf i (List.mem_range.2 hi))
  | some p =>
    simp only [Option.getD_some]
    obtain ⟨h1, h2⟩ := List.find?_range_eq_some.1 hf
    exact ⟨h1, fun i hi => by
      have := h2.2 i hi
      simpa using this⟩
theorem fb_eq {r p : Nat} (hb : r < 2 ^ 200) (h : r.testBit p = true) (h2 : ∀ i, i < p → r.testBit i = false) : fb r = p := by
  have h0 : r ≠ 0 := fun e => by subst e; simp at h
  obtain ⟨h3, h4⟩ := fb_spec h0 hb
  rcases Nat.lt_trichotomy (fb r) p with h5 | h5 | h5
  · rw [h2 _ h5] at h3; cases h3
  · exact h5
  · rw [h4 _ h5] at h; cases h
theorem fb_le {r p : Nat} (hb : r < 2 ^ 200) (h : r.testBit p = true) : fb r ≤ p := by
  have h0 : r ≠ 0 := fun e => by subst e; simp at h
  obtain ⟨h3, h4⟩ := fb_spec h0 hb
  rcases Nat.lt_or_ge p (fb r) with h5 | h5
  · rw [h4 _ h5] at h; cases h
  · exact h5
/-! reduced lines -/
structure Rd (L : List Ln) : Prop where
  ord : L.Pairwise fun x y => fb x.1 < fb y.1
  nz : ∀ x ∈ L, x.1 ≠ 0
  bd : ∀ x ∈ L, x.1 < 2 ^ 200
  one : ∀ x ∈ L, ∀ y ∈ L, y.1.testBit (fb x.1) = true → fb x.1 = fb y.1
theorem Rd.inj {L : List Ln} (h : Rd L) {x y : Ln} (hx : x ∈ L) (hy : y ∈ L) (e : fb x.1 = fb y.1) : x = y := by
  obtain ⟨i, hi, rfl⟩ := List.getElem_of_mem hx
  obtain ⟨j, hj, rfl⟩ := List.getElem_of_mem hy
  have ho := List.pairwise_iff_getElem.1 h.ord
  rcases Nat.lt_trichotomy i j with hij | hij | hij
  · have := ho i j hi hj hij; omega
  · subst hij; rfl
  · have := ho j i hj hi hij; omega
/-- the sum of those whose first number v has -/
def ssum (m : Nat) : List Ln → Ln → Ln
  | [], _ => zeroV m
  | x :: L, v => if v.1.testBit (fb x.1) then addV (ssum m L v) x else ssum m L v
theorem ssum_len {m : Nat} : ∀ {L : List Ln}, Szd m L → ∀ v, (ssum m L v).2.length = m
  | [], _, _ => zeroV_len m
  | x :: L, h, v => by
    unfold ssum
    have ih := ssum_len (L := L) (fun y hy => h y (by simp [hy])) v
    split
    · exact addV_len ih (h x (by simp))
    · exact ih
theorem ssum_add {m : Nat} : ∀ {L : List Ln}, Szd m L → ∀ u v, ssum m L (addV u v) = addV (ssum m L u) (ssum m L v)
  | [], _, _, _ => by simp only [ssum]; rw [addV_zero (zeroV_len m)]
  | x :: L, h, u, v => by
    have hs : Szd m L := fun y hy => h y (by simp [hy])
    have ih := ssum_add hs u v
    have hx := h x (by simp)
    simp only [ssum]
    rw [addV_bit, ih]
    have ha := ssum_len hs u
    generalize ssum m L u = a at *
    have hb := ssum_len hs v
    generalize ssum m L v = b at *
    cases u.1.testBit (fb x.1) <;> cases v.1.testBit (fb x.1) <;> simp only [Bool.xor_true, Bool.xor_false, Bool.not_false, Bool.not_true, if_true, if_false, Bool.false_eq_true]
    · rw [addV_assoc]
    · rw [addV_assoc, addV_comm b x, ← addV_assoc]
    · rw [← addV_assoc, addV_assoc a x b, addV_comm x b, ← addV_assoc, addV_assoc (addV a b), addV_self hx, addV_zero]
      exact addV_len ha hb
theorem ssum_zero (m : Nat) (L : List Ln) (v : Ln) (h : ∀ x ∈ L, v.1.testBit (fb x.1) = false) : ssum m L v = zeroV m := by
  induction L with
  | nil => rfl
  | cons x L ih =>
    unfold ssum
    rw [h x (by simp)]
    exact ih (fun y hy => h y (by simp [hy]))

theorem ssum_one {m : Nat} (v x : Ln) (hx : x.2.length = m) (hb : v.1.testBit (fb x.1) = true) : ∀ (K : List Ln), K.Nodup → (∀ y ∈ K, v.1.testBit (fb y.1) = true → y = x) → ssum m K v = if x ∈ K then x else zeroV m
  | [], _, _ => by simp [ssum]
  | y :: K, hn, h => by
    have ih := ssum_one v x hx hb K (List.nodup_cons.1 hn).2 (fun z hz => h z (by simp [hz]))
    have hy := (List.nodup_cons.1 hn).1
    unfold ssum
    by_cases e : y = x
    · subst e
      rw [if_pos hb, ih, if_neg hy, if_pos (by simp), addV_comm, addV_zero hx]
    · have : v.1.testBit (fb y.1) = false := by
        cases hc : v.1.testBit (fb y.1) with
        | false => rfl
        | true => exact absurd (h y (by simp) hc) e
      rw [this, ih]
      have e2 : x ≠ y := fun h => e h.symm
      simp [e2]
theorem Rd.nodup {L : List Ln} (h : Rd L) : L.Nodup := by
  refine List.Pairwise.imp ?_ h.ord
  intro x y hxy e
  subst e
  omega
theorem Rd.own {L : List Ln} (h : Rd L) {m : Nat} (hs : Szd m L) {x : Ln} (hx : x ∈ L) : ssum m L x = x := by
  rw [ssum_one x x (hs x hx) (fb_spec (h.nz x hx) (h.bd x hx)).1 L h.nodup (fun y hy hb => h.inj hy hx (h.one y hy x hx hb)), if_pos hx]
theorem Rd.full {L : List Ln} (h : Rd L) {m : Nat} (hs : Szd m L) {v : Ln} (hv : Spn m L v) : ssum m L v = v := by
  induction hv using Spn.ind with
  | zero => exact ssum_zero m L _ (fun x _ => zeroV_bit m _)
  | add _ hx ih => rw [ssum_add hs, ih, h.own hs hx]
theorem Spn.bd {m : Nat} {L : List Ln} {N : Nat} (hb : ∀ x ∈ L, x.1 < 2 ^ N) {v : Ln} (h : Spn m L v) : v.1 < 2 ^ N := by
  induction h using Spn.ind with
  | zero => exact Nat.two_pow_pos N
  | add _ hx ih => exact Nat.xor_lt_two_pow ih (hb _ hx)
theorem ssum_bit {m : Nat} : ∀ (L : List Ln) (v : Ln) (i : Nat), (ssum m L v).1.testBit i = true → ∃ y ∈ L, v.1.testBit (fb y.1) = true ∧ y.1.testBit i = true
  | [], v, i, h => by rw [ssum, zeroV_bit] at h; cases h
  | y :: L, v, i, h => by
    unfold ssum at h
    have ih := ssum_bit (m := m) L v i
    split at h
    · rename_i hb
      rw [addV_bit] at h
      cases hy : y.1.testBit i with
      | true => exact ⟨y, by simp, hb, hy⟩
      | false =>
        rw [hy, Bool.xor_false] at h
        obtain ⟨z, hz, h1, h2⟩ := ih h
        exact ⟨z, by simp [hz], h1, h2⟩
    · obtain ⟨z, hz, h1, h2⟩ := ih h
      exact ⟨z, by simp [hz], h1, h2⟩
/-- the first number of a sum is that of a reduced line -/
theorem Rd.piv {L : List Ln} (h : Rd L) {m : Nat} (hs : Szd m L) {v : Ln} (hv : Spn m L v) (h0 : v.1 ≠ 0) : ∃ y ∈ L, fb y.1 = fb v.1 := by
  have hb := hv.bd h.bd
  obtain ⟨h1, h2⟩ := fb_spec h0 hb
  rw [← h.full hs hv] at h1
  obtain ⟨y, hy, h3, h4⟩ := ssum_bit L v _ h1
  rw [h.full hs hv] at h4
  refine ⟨y, hy, ?_⟩
  have h5 := fb_le (h.bd y hy) h4
  have h6 := fb_le hb h3
  omega
theorem Rd.sub {m : Nat} {A B : List Ln} (hA : Rd A) (hB : Rd B) (sA : Szd m A) (sB : Szd m B) (h : SameS m A B) {x : Ln} (hx : x ∈ A) : x ∈ B := by
  have hxB := (h x).1 (Spn.mem sA hx)
  obtain ⟨y, hy, he⟩ := hB.piv sB hxB (hA.nz x hx)
  have hyA := (h y).2 (Spn.mem sB hy)
  have hzz : Spn m A (addV x y) := (Spn.mem sA hx).sum sA hyA
  have hzero : ssum m A (addV x y) = zeroV m := by
    refine ssum_zero m A _ (fun z hz => ?_)
    rw [addV_bit]
    by_cases e : z = x
    · subst e
      rw [(fb_spec (hA.nz z hz) (hA.bd z hz)).1, ← he, (fb_spec (hB.nz y hy) (hB.bd y hy)).1]
      rfl
    · have h1 : x.1.testBit (fb z.1) = false := by
        cases hc : x.1.testBit (fb z.1) with
        | false => rfl
        | true => exact absurd (hA.inj hz hx (hA.one z hz x hx hc)) e
      obtain ⟨t, ht, hte⟩ := hB.piv sB ((h z).1 (Spn.mem sA hz)) (hA.nz z hz)
      have h2 : y.1.testBit (fb z.1) = false := by
        cases hc : y.1.testBit (fb z.1) with
        | false => rfl
        | true =>
          rw [← hte] at hc
          have := hB.one t ht y hy hc
          rw [hte, he] at this
          exact absurd (hA.inj hz hx this) e
      rw [h1, h2]
      rfl
  have h3 := hA.full sA hzz
  rw [hzero] at h3
  have hxy : x = y := by
    have : addV (addV x y) y = addV (zeroV m) y := by rw [← h3]
    rw [addV_assoc, addV_self (sB y hy), addV_zero (sA x hx), addV_comm, addV_zero (sB y hy)] at this
    exact this
  rw [hxy]
  exact hy
theorem eq_of_ord {α : Type} (f : α → Nat) : ∀ (A B : List α), A.Pairwise (fun x y => f x < f y) → B.Pairwise (fun x y => f x < f y) → (∀ x, x ∈ A ↔ x ∈ B) → A = B
  | [], B, _, _, h => by
    cases B with
    | nil => rfl
    | cons y B => exact absurd ((h y).2 (by simp)) (by simp)
  | x :: A, [], _, _, h => absurd ((h x).1 (by simp)) (by simp)
  | x :: A, y :: B, hA, hB, h => by
    obtain ⟨a1, a2⟩ := List.pairwise_cons.1 hA
    obtain ⟨b1, b2⟩ := List.pairwise_cons.1 hB
    have e : x = y := by
      have h1 := (h x).1 (by simp)
      have h2 := (h y).2 (by simp)
      rcases List.mem_cons.1 h1 with h1 | h1
      · exact h1
      · rcases List.mem_cons.1 h2 with h2 | h2
        · exact h2.symm
        · have := a1 y h2
          have := b1 x h1
          omega
    subst e
    rw [eq_of_ord f A B a2 b2 (fun z => ?_)]
    have hz := h z
    constructor
    · intro hzA
      rcases List.mem_cons.1 (hz.1 (by simp [hzA])) with h1 | h1
      · subst h1
        have := a1 z hzA
        omega
      · exact h1
    · intro hzB
      rcases List.mem_cons.1 (hz.2 (by simp [hzB])) with h1 | h1
      · subst h1
        have := b1 z hzB
        omega
      · exact h1
/-- there is just one reduced list -/
theorem Rd.uniq {m : Nat} {A B : List Ln} (hA : Rd A) (hB : Rd B) (sA : Szd m A) (sB : Szd m B) (h : SameS m A B) : A = B :=
  eq_of_ord (fun x : Ln => fb x.1) A B hA.ord hB.ord (fun _ => ⟨fun hx => hA.sub hB sA sB h hx, fun hx => hB.sub hA sB sA h.symm hx⟩)

/-! the program's elimination -/
def gt (L : List Ln) (t : Nat) : Ln := L.getD t (0, [])
theorem gt_mem {L : List Ln} {t : Nat} (h : t < L.length) : gt L t ∈ L := by simp [gt, List.getD, h]
theorem mem_gt {L : List Ln} {x : Ln} : x ∈ L ↔ ∃ t, t < L.length ∧ gt L t = x := by
  constructor
  · intro h
    obtain ⟨i, hi, rfl⟩ := List.getElem_of_mem h
    exact ⟨i, hi, by simp [gt, List.getD, hi]⟩
  · rintro ⟨t, h, rfl⟩
    exact gt_mem h
def swp (L : List Ln) (a b : Nat) : List Ln := (L.set a (gt L b)).set b (gt L a)
theorem swp_len (L : List Ln) (a b : Nat) : (swp L a b).length = L.length := by simp [swp]
theorem gt_set (L : List Ln) (a t : Nat) (x : Ln) (ha : a < L.length) : gt (L.set a x) t = if t = a then x else gt L t := by
  unfold gt List.getD
  rw [List.getElem?_set]
  by_cases e : a = t
  · subst e; simp [ha]
  · rw [if_neg e, if_neg (fun h => e h.symm)]
theorem gt_swp (L : List Ln) (a b t : Nat) (ha : a < L.length) (hb : b < L.length) : gt (swp L a b) t = if t = b then gt L a else if t = a then gt L b else gt L t := by
  unfold swp
  rw [gt_set _ _ _ _ (by simpa using hb), gt_set _ _ _ _ ha]
def clr (L : List Ln) (k i : Nat) : List Ln := (List.range L.length).map fun t => if t = k ∨ (gt L t).1.testBit i = false then gt L t else addV (gt L t) (gt L k)
theorem clr_len (L : List Ln) (k i : Nat) : (clr L k i).length = L.length := by simp [clr]
theorem gt_clr (L : List Ln) (k i t : Nat) (h : t < L.length) : gt (clr L k i) t = if t = k ∨ (gt L t).1.testBit i = false then gt L t else addV (gt L t) (gt L k) := by
  conv => lhs; unfold gt clr List.getD
  simp [h]
def elS (i : Nat) (s : List Ln × Nat) : List Ln × Nat :=
  match (s.1.drop s.2).findIdx? (fun x => x.1.testBit i) with
  | none => s
  | some a => (clr (swp s.1 s.2 (s.2 + a)) s.2 i, s.2 + 1)
def elN (L : List Ln) : Nat → List Ln × Nat
  | 0 => (L, 0)
  | i + 1 => elS i (elN L i)
structure EI (m N i : Nat) (L0 L : List Ln) (k : Nat) (P : Nat → Nat) : Prop where
  len : L.length = L0.length
  kle : k ≤ L.length
  szd : Szd m L
  bd : ∀ x ∈ L, x.1 < 2 ^ N
  plt : ∀ j, j < k → P j < i
  pin : ∀ j j', j < j' → j' < k → P j < P j'
  bit : ∀ j, j < k → ∀ t, t < L.length → (gt L t).1.testBit (P j) = decide (t = j)
  low : ∀ j, j < k → ∀ b, b < P j → (gt L j).1.testBit b = false
  rest : ∀ t, k ≤ t → t < L.length → ∀ b, b < i → (gt L t).1.testBit b = false
  same : SameS m L0 L
theorem gt_drop (L : List Ln) (k t : Nat) : gt (L.drop k) t = gt L (k + t) := by simp [gt, List.getD]
theorem swp_mem (L : List Ln) (a b : Nat) (ha : a < L.length) (hb : b < L.length) (x : Ln) : x ∈ L ↔ x ∈ swp L a b := by
  rw [mem_gt, mem_gt, swp_len]
  constructor
  · rintro ⟨t, ht, rfl⟩
    refine ⟨if t = b then a else if t = a then b else t, by split <;> (try split) <;> omega, ?_⟩
    rw [gt_swp L a b _ ha hb]
    by_cases e1 : t = b
    · subst e1
      simp only [if_true]
      by_cases e2 : a = t
      · subst e2; simp
      · simp [e2]
    · by_cases e2 : t = a
      · subst e2
        simp [e1]
      · simp [e1, e2]
  · rintro ⟨t, ht, rfl⟩
    rw [gt_swp L a b _ ha hb]
    by_cases e1 : t = b
    · exact ⟨a, ha, by simp [e1]⟩
    · by_cases e2 : t = a
      · exact ⟨b, hb, by rw [if_neg e1, if_pos e2]⟩
      · exact ⟨t, ht, by simp [e1, e2]⟩
theorem clr_same {m : Nat} (L : List Ln) (k i : Nat) (hk : k < L.length) (hs : Szd m L) : Szd m (clr L k i) ∧ SameS m L (clr L k i) := by
  have h1 : Szd m (clr L k i) := by
    intro x hx
    obtain ⟨t, ht, rfl⟩ := mem_gt.1 hx
    rw [clr_len] at ht
    rw [gt_clr L k i t ht]
    split
    · exact hs _ (gt_mem ht)
    · exact addV_len (hs _ (gt_mem ht)) (hs _ (gt_mem hk))
  have hkc : gt L k ∈ clr L k i := mem_gt.2 ⟨k, by rw [clr_len]; exact hk, by rw [gt_clr L k i k hk]; simp⟩
  refine ⟨h1, sameS_of hs h1 (fun x hx => ?_) (fun x hx => ?_)⟩
  · obtain ⟨t, ht, rfl⟩ := mem_gt.1 hx
    have hm : gt (clr L k i) t ∈ clr L k i := gt_mem (by rw [clr_len]; exact ht)
    by_cases e : t = k ∨ (gt L t).1.testBit i = false
    · rw [gt_clr L k i t ht, if_pos e] at hm
      exact Spn.mem h1 hm
    · rw [gt_clr L k i t ht, if_neg e] at hm
      have := (Spn.mem h1 hm).sum h1 (Spn.mem h1 hkc)
      rwa [addV_assoc, addV_self (hs _ (gt_mem hk)), addV_zero (hs _ (gt_mem ht))] at this
  · obtain ⟨t, ht, rfl⟩ := mem_gt.1 hx
    rw [clr_len] at ht
    rw [gt_clr L k i t ht]
    split
    · exact Spn.mem hs (gt_mem ht)
    · exact (Spn.mem hs (gt_mem ht)).sum hs (Spn.mem hs (gt_mem hk))
theorem EI.step {m N i : Nat} {L0 L : List Ln} {k : Nat} {P : Nat → Nat} (h : EI m N i L0 L k P) : ∃ P', EI m N (i + 1) L0 (elS i (L, k)).1 (elS i (L, k)).2 P' := by
  unfold elS
  simp only
  cases hf : (L.drop k).findIdx? (fun x => x.1.testBit i) with
  | none =>
    rw [List.findIdx?_eq_none_iff] at hf
    simp only
    refine ⟨P, h.len, h.kle, h.szd, h.bd, fun j hj => by have := h.plt j hj; omega, h.pin, h.bit, h.low, fun t h1 h2 b hb => ?_, h.same⟩
    by_cases e : b = i
    · subst e
      have := hf (gt L t) (by
        have := gt_drop L k (t - k)
        rw [show k + (t - k) = t by omega] at this
        rw [← this]
        exact gt_mem (by simp; omega))
      exact this
    · exact h.rest t h1 h2 b (by omega)
  | some a =>
    obtain ⟨ha, hb, _⟩ := List.findIdx?_eq_some_iff_getElem.1 hf
    simp only [List.length_drop] at ha
    have hka : k + a < L.length := by omega
    have hk : k < L.length := by omega
    have hbi : (gt L (k + a)).1.testBit i = true := by
      rw [← gt_drop]
      simp only [gt, List.getD, List.getElem?_eq_getElem (show a < (L.drop k).length by simp; omega), Option.getD_some]
      exact hb
    simp only
    have hS := fun t => gt_swp L k (k + a) t hk hka
    have hSl := swp_len L k (k + a)
    have hSm := swp_mem L k (k + a) hk hka
    generalize swp L k (k + a) = S at *
    have hSz : Szd m S := fun x hx => h.szd x ((hSm x).2 hx)
    have hSk : gt S k = gt L (k + a) := by
      rw [hS k]
      by_cases e : a = 0
      · subst e; simp
      · simp [e]
    have hSbit : ∀ j, j < k → ∀ t, t < L.length → (gt S t).1.testBit (P j) = decide (t = j) := by
      intro j hj t ht
      rw [hS t]
      by_cases e1 : t = k + a
      · subst e1
        rw [if_pos rfl, h.bit j hj k hk]
        simp; omega
      · rw [if_neg e1]
        by_cases e2 : t = k
        · subst e2
          rw [if_pos rfl, h.bit j hj _ hka]
          simp; omega
        · rw [if_neg e2, h.bit j hj t ht]
    have hSlow : ∀ j, j < k → ∀ b, b < P j → (gt S j).1.testBit b = false := by
      intro j hj b hb
      rw [hS j, if_neg (by omega), if_neg (by omega)]
      exact h.low j hj b hb
    have hSrest : ∀ t, k ≤ t → t < L.length → ∀ b, b < i → (gt S t).1.testBit b = false := by
      intro t h1 h2 b hb
      rw [hS t]
      split
      · exact h.rest k (by omega) hk b hb
      · split
        · exact h.rest _ (by omega) hka b hb
        · exact h.rest t h1 h2 b hb
    rw [← hSk] at hbi
    obtain ⟨c1, c2⟩ := clr_same S k i (by omega) hSz
    have hC := fun t (ht : t < L.length) => gt_clr S k i t (by omega)
    have hCl := clr_len S k i
    have hCm : ∀ x ∈ clr S k i, x.1 < 2 ^ N := by
      intro x hx
      obtain ⟨t, ht, rfl⟩ := mem_gt.1 hx
      rw [hCl] at ht
      rw [hC t (by omega)]
      have b1 := h.bd _ ((hSm _).2 (gt_mem ht))
      split
      · exact b1
      · exact Nat.xor_lt_two_pow b1 (h.bd _ ((hSm _).2 (gt_mem (by omega))))
    generalize clr S k i = C at *
    have hlow : ∀ t, t < L.length → ∀ b, b < i → (gt C t).1.testBit b = (gt S t).1.testBit b := by
      intro t ht b hb
      rw [hC t ht]
      split
      · rfl
      · rw [addV_bit, hSrest k (by omega) hk b hb, Bool.xor_false]
    have hi : ∀ t, t < L.length → (gt C t).1.testBit i = decide (t = k) := by
      intro t ht
      rw [hC t ht]
      by_cases e : t = k
      · subst e; simp [hbi]
      · by_cases e2 : (gt S t).1.testBit i = false
        · simp [e, e2]
        · rw [if_neg (by simp [e]; simpa using e2), addV_bit, hbi]
          simp at e2
          simp [e, e2]
    refine ⟨fun j => if j = k then i else P j, by rw [hCl, hSl, h.len], by rw [hCl, hSl]; omega, c1, hCm, fun j hj => ?_, fun j j' h1 h2 => ?_, fun j hj t ht => ?_, fun j hj b hb' => ?_, fun t h1 h2 b hb => ?_, (h.same.trans (sameS_mem hSm)).trans c2⟩
    · split
      · omega
      · have := h.plt j (by omega); omega
    · rw [if_neg (show j ≠ k by omega)]
      split
      · exact h.plt j (by omega)
      · exact h.pin j j' h1 (by omega)
    · have ht' : t < L.length := by omega
      split
      · rename_i e
        subst e
        exact hi t ht'
      · rw [hlow t ht' _ (h.plt j (by omega))]
        exact hSbit j (by omega) t ht'
    · split at hb'
      · rename_i e
        subst e
        rw [hlow j hk b hb']
        exact hSrest j (by omega) hk b hb'
      · have := h.plt j (by omega)
        rw [hlow j (by omega) b (by omega)]
        exact hSlow j (by omega) b hb'
    · by_cases e : b = i
      · subst e
        rw [hi t (by omega)]
        simp; omega
      · rw [hlow t (by omega) b (by omega)]
        exact hSrest t (by omega) (by omega) b (by omega)

theorem EI.start {m N : Nat} {L : List Ln} (hs : Szd m L) (hb : ∀ x ∈ L, x.1 < 2 ^ N) : EI m N 0 L L 0 (fun _ => 0) :=
  ⟨rfl, Nat.zero_le _, hs, hb, fun j hj => absurd hj (by omega), fun j j' _ hj => absurd hj (by omega), fun j hj => absurd hj (by omega), fun j hj => absurd hj (by omega), fun t _ _ b hb => absurd hb (by omega), SameS.refl⟩
theorem EI.at {m N : Nat} {L : List Ln} (hs : Szd m L) (hb : ∀ x ∈ L, x.1 < 2 ^ N) : ∀ i, ∃ P, EI m N i L (elN L i).1 (elN L i).2 P
  | 0 => ⟨_, EI.start hs hb⟩
  | i + 1 => by
    obtain ⟨P, h⟩ := EI.at hs hb i
    exact h.step
/-- what is kept, and the rest -/
def kep (L : List Ln) (n : Nat) : List Ln := (elN L n).1.take (elN L n).2
def res (L : List Ln) (n : Nat) : List Ln := (elN L n).1.drop (elN L n).2
theorem gt_take (L : List Ln) (k t : Nat) (h : t < k) : gt (L.take k) t = gt L t := by simp [gt, List.getD, h]
theorem kep_rd {m n : Nat} {L : List Ln} (hn : n ≤ 200) (hs : Szd m L) (hb : ∀ x ∈ L, x.1 < 2 ^ n) : Rd (kep L n) ∧ Szd m (kep L n) ∧ (kep L n).length = (elN L n).2 ∧ (elN L n).1.length = L.length ∧ ((elN L n).2 ≤ L.length) ∧ (∀ x ∈ kep L n, x.1 < 2 ^ n) ∧ (elN L n).2 ≤ n := by
  obtain ⟨P, h⟩ := EI.at hs hb n
  unfold kep
  have hbb : ∀ x : Nat, x < 2 ^ n → x < 2 ^ 200 := fun x hx => Nat.lt_of_lt_of_le hx (Nat.pow_le_pow_right (by omega) hn)
  generalize elN L n = s at *
  obtain ⟨M, k⟩ := s
  simp only at *
  have hlen : (M.take k).length = k := by simp [h.kle]
  have hmem : ∀ x ∈ M.take k, ∃ j, j < k ∧ x = gt M j := fun x hx => by
    obtain ⟨t, ht, rfl⟩ := mem_gt.1 hx
    rw [hlen] at ht
    exact ⟨t, ht, gt_take M k t ht⟩
  have hkle := h.kle
  have hfb : ∀ j, j < k → fb (gt M j).1 = P j := fun j hj => fb_eq (hbb _ (h.bd _ (gt_mem (by omega)))) (by rw [h.bit j hj j (by omega)]; simp) (h.low j hj)
  refine ⟨⟨?_, ?_, ?_, ?_⟩, fun x hx => h.szd x (List.mem_of_mem_take hx), hlen, h.len, by rw [← h.len]; exact h.kle, fun x hx => h.bd x (List.mem_of_mem_take hx), ?_⟩
  · rw [List.pairwise_iff_getElem]
    intro i j hi hj hij
    rw [hlen] at hi hj
    have e : ∀ t (ht : t < (M.take k).length), (M.take k)[t] = gt M t := fun t ht => by
      rw [hlen] at ht
      simp [gt, List.getD, show t < M.length by omega]
    rw [e i (by omega), e j (by omega), hfb i hi, hfb j hj]
    exact h.pin i j hij hj
  · intro x hx e
    obtain ⟨j, hj, rfl⟩ := hmem x hx
    have := h.bit j hj j (by omega)
    rw [e] at this
    simp at this
  · intro x hx
    obtain ⟨j, hj, rfl⟩ := hmem x hx
    exact hbb _ (h.bd _ (gt_mem (by omega)))
  · intro x hx y hy hxy
    obtain ⟨j, hj, rfl⟩ := hmem x hx
    obtain ⟨t, ht, rfl⟩ := hmem y hy
    rw [hfb j hj, h.bit j hj t (by omega)] at hxy
    simp at hxy
    rw [hxy]
  · have key : ∀ j, j < k → j ≤ P j := by
      intro j
      induction j with
      | zero => intro _; omega
      | succ j ih => intro hj; have := ih (by omega); have := h.pin j (j + 1) (by omega) hj; omega
    by_cases e : k = 0
    · omega
    · have := key (k - 1) (by omega)
      have := h.plt (k - 1) (by omega)
      omega
theorem zero_of_bits {r n : Nat} (hb : r < 2 ^ n) (h : ∀ b, b < n → r.testBit b = false) : r = 0 := by
  apply Nat.eq_of_testBit_eq
  intro i
  rw [Nat.zero_testBit]
  by_cases hi : i < n
  · exact h i hi
  · exact Nat.testBit_lt_two_pow (Nat.lt_of_lt_of_le hb (Nat.pow_le_pow_right (by omega) (by omega)))
theorem res_zero {m n : Nat} {L : List Ln} (hs : Szd m L) (hb : ∀ x ∈ L, x.1 < 2 ^ n) : (∀ x ∈ res L n, x.1 = 0 ∧ x.2.length = m) ∧ SameS m L (kep L n ++ res L n) := by
  obtain ⟨P, h⟩ := EI.at hs hb n
  unfold res kep
  rw [List.take_append_drop]
  refine ⟨fun x hx => ⟨?_, h.szd x (List.mem_of_mem_drop hx)⟩, h.same⟩
  obtain ⟨t, ht, rfl⟩ := mem_gt.1 hx
  rw [List.length_drop] at ht
  rw [gt_drop]
  exact zero_of_bits (h.bd _ (gt_mem (by omega))) (h.rest _ (by omega) (by omega))
theorem spn_append_zero {m : Nat} {A E : List Ln} (hA : Szd m A) (h : ∀ x ∈ E, x = zeroV m) : SameS m (A ++ E) A := by
  have hAE : Szd m (A ++ E) := fun x hx => by
    rcases List.mem_append.1 hx with h1 | h1
    · exact hA x h1
    · rw [h x h1]; exact zeroV_len m
  refine sameS_of hAE hA (fun x hx => ?_) (fun x hx => Spn.mem hAE (by simp [hx]))
  rcases List.mem_append.1 hx with h1 | h1
  · exact Spn.mem hA h1
  · rw [h x h1]; exact .zero
/-- they contradict one another -/
def Contra (m : Nat) (L : List Ln) : Prop := ∃ v, Spn m L v ∧ v.1 = 0 ∧ v ≠ zeroV m
theorem contra_iff {m : Nat} {L A E : List Ln} (hA : Rd A) (sA : Szd m A) (hE : ∀ x ∈ E, x.1 = 0 ∧ x.2.length = m) (h : SameS m L (A ++ E)) : Contra m L ↔ ∃ x ∈ E, x ≠ zeroV m := by
  have sAE : Szd m (A ++ E) := fun x hx => by
    rcases List.mem_append.1 hx with h1 | h1
    · exact sA x h1
    · exact (hE x h1).2
  constructor
  · rintro ⟨v, hv, h0, hne⟩
    apply Classical.byContradiction
    intro hn
    have hz : ∀ x ∈ E, x = zeroV m := fun x hx => Classical.byContradiction fun hc => hn ⟨x, hx, hc⟩
    have hvA := (spn_append_zero sA hz v).1 ((h v).1 hv)
    have := hA.full sA hvA
    rw [ssum_zero m A v (fun x _ => by rw [h0]; simp)] at this
    exact hne this.symm
  · rintro ⟨x, hx, hne⟩
    exact ⟨x, (h x).2 (Spn.mem sAE (by simp [hx])), (hE x hx).1, hne⟩
/-! the document's reduction -/
def redX (L : List Ln) (x : Ln) : Ln := L.foldl (fun x y => if x.1.testBit (fb y.1) then addV x y else x) x
theorem redX_spn {m : Nat} {M : List Ln} (sM : Szd m M) : ∀ (L : List Ln), (∀ y ∈ L, y ∈ M) → ∀ x : Ln, x.2.length = m → (redX L x).2.length = m ∧ Spn m M (addV (redX L x) x)
  | [], _, x, hx => ⟨hx, by
    unfold redX
    rw [List.foldl_nil, addV_self hx]
    exact .zero⟩
  | y :: L, h, x, hx => by
    have hy := h y (by simp)
    unfold redX
    rw [List.foldl_cons]
    split
    · have hl := addV_len hx (sM y hy)
      obtain ⟨h1, h2⟩ := redX_spn sM L (fun z hz => h z (by simp [hz])) (addV x y) hl
      refine ⟨h1, ?_⟩
      have := h2.sum sM (Spn.mem sM hy)
      rwa [addV_assoc, addV_assoc x y y, addV_self (sM y hy), addV_zero hx] at this
    · exact redX_spn sM L (fun z hz => h z (by simp [hz])) x hx
theorem redX_bd {N : Nat} : ∀ (L : List Ln), (∀ y ∈ L, y.1 < 2 ^ N) → ∀ x : Ln, x.1 < 2 ^ N → (redX L x).1 < 2 ^ N
  | [], _, _, hx => hx
  | y :: L, h, x, hx => by
    unfold redX
    rw [List.foldl_cons]
    have ih := redX_bd L (fun z hz => h z (by simp [hz]))
    split
    · exact ih _ (Nat.xor_lt_two_pow hx (h y (by simp)))
    · exact ih _ hx
theorem redX_bit {M : List Ln} (hM : Rd M) : ∀ (L A : List Ln), M = A ++ L → ∀ x : Ln, (∀ y ∈ A, x.1.testBit (fb y.1) = false) → ∀ y ∈ M, (redX L x).1.testBit (fb y.1) = false
  | [], A, e, x, h, y, hy => h y (by rw [e, List.append_nil] at hy; exact hy)
  | z :: L, A, e, x, h, y, hy => by
    have hz : z ∈ M := by rw [e]; simp
    unfold redX
    rw [List.foldl_cons]
    refine redX_bit hM L (A ++ [z]) (by rw [e]; simp) _ (fun t ht => ?_) y hy
    have htM : t ∈ M := by rw [e]; rcases List.mem_append.1 ht with h1 | h1 <;> simp at h1 ⊢ <;> simp [h1]
    by_cases et : t = z
    · subst et
      split
      · rename_i hb
        rw [addV_bit, hb, (fb_spec (hM.nz t hz) (hM.bd t hz)).1]
        rfl
      · rename_i hb; simpa using hb
    · have hzt : z.1.testBit (fb t.1) = false := by
        cases hc : z.1.testBit (fb t.1) with
        | false => rfl
        | true => exact absurd (hM.inj htM hz (hM.one t htM z hz hc)) et
      have hxt : x.1.testBit (fb t.1) = false := by
        rcases List.mem_append.1 ht with h1 | h1
        · exact h t h1
        · simp at h1; exact absurd h1 et
      split
      · rw [addV_bit, hxt, hzt]; rfl
      · exact hxt
def insS (x : Ln) : List Ln → List Ln
  | [] => [x]
  | y :: L => if fb x.1 < fb y.1 then x :: y :: L else y :: insS x L
theorem insS_mem (x : Ln) : ∀ (L : List Ln) (z : Ln), z ∈ insS x L ↔ z = x ∨ z ∈ L
  | [], z => by simp [insS]
  | y :: L, z => by
    unfold insS
    split
    · simp
    · rw [List.mem_cons, insS_mem x L z, List.mem_cons]
      constructor
      · rintro (h | h | h) <;> simp [h]
      · rintro (h | h | h) <;> simp [h]
theorem insS_len (x : Ln) : ∀ (L : List Ln), (insS x L).length = L.length + 1
  | [] => rfl
  | y :: L => by
    unfold insS
    split
    · simp
    · simp [insS_len x L]
theorem insS_ord (x : Ln) : ∀ (L : List Ln), L.Pairwise (fun x y => fb x.1 < fb y.1) → (∀ y ∈ L, fb y.1 ≠ fb x.1) → (insS x L).Pairwise (fun x y => fb x.1 < fb y.1)
  | [], _, _ => by simp [insS]
  | y :: L, h, hne => by
    obtain ⟨h1, h2⟩ := List.pairwise_cons.1 h
    unfold insS
    split
    · rename_i hlt
      refine List.pairwise_cons.2 ⟨fun z hz => ?_, h⟩
      rcases List.mem_cons.1 hz with e | e
      · rw [e]; exact hlt
      · have := h1 z e; omega
    · rename_i hge
      refine List.pairwise_cons.2 ⟨fun z hz => ?_, insS_ord x L h2 (fun z hz => hne z (by simp [hz]))⟩
      rcases (insS_mem x L z).1 hz with e | e
      · rw [e]
        have := hne y (by simp)
        omega
      · exact h1 z e
def addIf (x y : Ln) : Ln := if y.1.testBit (fb x.1) then addV y x else y
def docS (s : List Ln × List By) (x : Ln) : List Ln × List By :=
  if (redX s.1 x).1 = 0 then (s.1, s.2 ++ [(redX s.1 x).2]) else (insS (redX s.1 x) (s.1.map (addIf (redX s.1 x))), s.2)
def zr (b : By) : Ln := (0, b)
structure DI (m N : Nat) (L0 : List Ln) (s : List Ln × List By) : Prop where
  rd : Rd s.1
  szd : Szd m s.1
  bd : ∀ x ∈ s.1, x.1 < 2 ^ N
  emp : ∀ b ∈ s.2, b.length = m
  same : SameS m L0 (s.1 ++ s.2.map zr)
/-- the first number of a line to which a later one is added -/
theorem fb_addIf {x y : Ln} (hx : x.1 ≠ 0) (bx : x.1 < 2 ^ 200) (hy : y.1 ≠ 0) (byy : y.1 < 2 ^ 200) (h : x.1.testBit (fb y.1) = false) : fb (addIf x y).1 = fb y.1 := by
  unfold addIf
  split
  · rename_i hb
    obtain ⟨x1, x2⟩ := fb_spec hx bx
    obtain ⟨y1, y2⟩ := fb_spec hy byy
    have hle := fb_le byy hb
    refine fb_eq (Nat.xor_lt_two_pow byy bx) ?_ (fun i hi => ?_)
    · rw [addV_bit, h, y1]; rfl
    · rw [addV_bit, y2 i hi, x2 i (by omega)]; rfl
  · rfl
theorem DI.step {m N : Nat} {L0 : List Ln} {s : List Ln × List By} (hN : N ≤ 200) (s0 : Szd m L0) (h : DI m N L0 s) {x : Ln} (hx : x.2.length = m) (bx : x.1 < 2 ^ N) : DI m N (L0 ++ [x]) (docS s x) := by
  obtain ⟨A, E⟩ := s
  obtain ⟨hA, sA, bA, hE, hsame⟩ := h
  simp only at hA sA bA hE hsame
  have hbb : ∀ x : Nat, x < 2 ^ N → x < 2 ^ 200 := fun x hx => Nat.lt_of_lt_of_le hx (Nat.pow_le_pow_right (by omega) hN)
  obtain ⟨l1, l2⟩ := redX_spn sA A (fun _ h => h) x hx
  have l3 := redX_bd A bA x bx
  have l4 := redX_bit hA A [] (by simp) x (fun y hy => absurd hy (by simp))
  unfold docS
  simp only
  generalize redX A x = r at *
  have sL0x : Szd m (L0 ++ [x]) := fun y hy => by
    rcases List.mem_append.1 hy with e | e
    · exact s0 y e
    · simp at e; rw [e]; exact hx
  have sE : Szd m (E.map zr) := fun y hy => by
    obtain ⟨b, hb, rfl⟩ := List.mem_map.1 hy
    exact hE b hb
  have sAE : Szd m (A ++ E.map zr) := fun y hy => by
    rcases List.mem_append.1 hy with e | e
    · exact sA y e
    · exact sE y e
  -- what was there is a sum of the new ones
  have hold : ∀ y, Spn m (A ++ E.map zr) y → Spn m (L0 ++ [x]) y := fun y hy => ((hsame y).2 hy).sub (fun z hz => by simp [hz])
  have hr : Spn m (L0 ++ [x]) r := by
    have h1 : Spn m (L0 ++ [x]) (addV r x) := hold _ (l2.sub (fun z hz => by simp [hz]))
    have := h1.sum sL0x (Spn.mem sL0x (x := x) (by simp))
    rwa [addV_assoc, addV_self hx, addV_zero l1] at this
  split
  · rename_i h0
    have hrz : r = zr r.2 := by unfold zr; rw [← h0]
    have sN : Szd m (A ++ (E ++ [r.2]).map zr) := fun y hy => by
      simp only [List.map_append, List.map_cons, List.map_nil, List.mem_append, List.mem_singleton] at hy
      rcases hy with e | e | e
      · exact sA y e
      · exact sE y e
      · rw [e]; exact l1
    refine ⟨hA, sA, bA, fun b hb => ?_, sameS_of sL0x sN (fun y hy => ?_) (fun y hy => ?_)⟩
    · rcases List.mem_append.1 hb with e | e
      · exact hE b e
      · simp at e; rw [e]; exact l1
    · have hsub : ∀ z, Spn m (A ++ E.map zr) z → Spn m (A ++ (E ++ [r.2]).map zr) z := fun z hz => hz.sub (fun t ht => by
        simp only [List.map_append, List.mem_append] at ht ⊢
        rcases ht with e | e
        · exact .inl e
        · exact .inr (.inl e))
      rcases List.mem_append.1 hy with e | e
      · exact hsub y ((hsame y).1 (Spn.mem s0 e))
      · simp at e
        subst e
        have h1 : Spn m (A ++ (E ++ [r.2]).map zr) (addV r y) := l2.sub (fun z hz => by simp [hz])
        have h2 : Spn m (A ++ (E ++ [r.2]).map zr) r := Spn.mem sN (by
          rw [List.mem_append, List.map_append, List.mem_append]
          refine .inr (.inr ?_)
          rw [List.map_cons, List.map_nil, List.mem_singleton]
          exact hrz)
        have := h2.sum sN h1
        rwa [← addV_assoc, addV_self l1, addV_comm, addV_zero hx] at this
    · simp only [List.map_append, List.map_cons, List.map_nil, List.mem_append, List.mem_singleton] at hy
      rcases hy with e | e | e
      · exact hold y (Spn.mem sAE (by simp [e]))
      · exact hold y (Spn.mem sAE (by rw [List.mem_append]; exact .inr e))
      · rw [e, ← hrz]; exact hr
  · rename_i h0
    have fbm : ∀ y ∈ A, fb (addIf r y).1 = fb y.1 := fun y hy => fb_addIf h0 (hbb _ l3) (hA.nz y hy) (hA.bd y hy) (l4 y hy)
    have am : ∀ z, z ∈ insS r (A.map (addIf r)) ↔ z = r ∨ ∃ y ∈ A, addIf r y = z := fun z => by
      rw [insS_mem, List.mem_map]
    have sN0 : Szd m (insS r (A.map (addIf r))) := fun z hz => by
      rcases (am z).1 hz with e | ⟨y, hy, e⟩
      · rw [e]; exact l1
      · rw [← e]
        unfold addIf
        split
        · exact addV_len (sA y hy) l1
        · exact sA y hy
    have bN0 : ∀ z ∈ insS r (A.map (addIf r)), z.1 < 2 ^ N := fun z hz => by
      rcases (am z).1 hz with e | ⟨y, hy, e⟩
      · rw [e]; exact l3
      · rw [← e]
        unfold addIf
        split
        · exact Nat.xor_lt_two_pow (bA y hy) l3
        · exact bA y hy
    have rb := (fb_spec h0 (hbb _ l3)).1
    have hnor : ∀ y ∈ A, (addIf r y).1.testBit (fb r.1) = false := fun y hy => by
      unfold addIf
      split
      · rename_i hb
        rw [addV_bit, hb, rb]; rfl
      · rename_i hb; simpa using hb
    have hold2 : ∀ y ∈ A, ∀ z ∈ A, (addIf r z).1.testBit (fb y.1) = z.1.testBit (fb y.1) := fun y hy z hz => by
      unfold addIf
      split
      · rw [addV_bit, l4 y hy, Bool.xor_false]
      · rfl
    refine ⟨⟨?_, ?_, fun z hz => hbb _ (bN0 z hz), ?_⟩, sN0, bN0, hE, ?_⟩
    · refine insS_ord r _ ?_ (fun y hy => ?_)
      · rw [List.pairwise_map]
        refine List.Pairwise.imp_of_mem ?_ hA.ord
        intro y z hy hz hyz
        rw [fbm y hy, fbm z hz]
        exact hyz
      · obtain ⟨y, hyA, rfl⟩ := List.mem_map.1 hy
        rw [fbm y hyA]
        intro e
        have := l4 y hyA
        rw [e, rb] at this
        cases this
    · intro z hz
      rcases (am z).1 hz with e | ⟨y, hy, e⟩
      · rw [e]; exact h0
      · intro e0
        have h1 := hold2 y hy y hy
        rw [e, e0, (fb_spec (hA.nz y hy) (hA.bd y hy)).1] at h1
        simp at h1
    · intro z hz t ht hb
      rcases (am z).1 hz with e | ⟨y, hy, e⟩
      · rcases (am t).1 ht with e' | ⟨y', hy', e'⟩
        · rw [e, e']
        · rw [e, ← e', hnor y' hy'] at hb; cases hb
      · rcases (am t).1 ht with e' | ⟨y', hy', e'⟩
        · rw [← e, e', fbm y hy, l4 y hy] at hb; cases hb
        · rw [← e, ← e', fbm y hy, hold2 y hy y' hy'] at hb
          rw [← e, ← e', fbm y hy, fbm y' hy']
          exact hA.one y hy y' hy' hb
    · have sN : Szd m (insS r (A.map (addIf r)) ++ E.map zr) := fun y hy => by
        rcases List.mem_append.1 hy with e | e
        · exact sN0 y e
        · exact sE y e
      have hrN : Spn m (insS r (A.map (addIf r)) ++ E.map zr) r := Spn.mem sN (by rw [List.mem_append, am]; exact .inl (.inl rfl))
      have hyN : ∀ y ∈ A, Spn m (insS r (A.map (addIf r)) ++ E.map zr) y := fun y hy => by
        have h1 : Spn m (insS r (A.map (addIf r)) ++ E.map zr) (addIf r y) := Spn.mem sN (by rw [List.mem_append, am]; exact .inl (.inr ⟨y, hy, rfl⟩))
        unfold addIf at h1
        split at h1
        · have := h1.sum sN hrN
          rwa [addV_assoc, addV_self l1, addV_zero (sA y hy)] at this
        · exact h1
      have hAE : ∀ z, Spn m (A ++ E.map zr) z → Spn m (insS r (A.map (addIf r)) ++ E.map zr) z := fun z hz => hz.into sN (fun t ht => by
        rcases List.mem_append.1 ht with e | e
        · exact hyN t e
        · exact Spn.mem sN (by rw [List.mem_append]; exact .inr e))
      refine sameS_of sL0x sN (fun y hy => ?_) (fun y hy => ?_)
      · rcases List.mem_append.1 hy with e | e
        · exact hAE y ((hsame y).1 (Spn.mem s0 e))
        · simp at e
          subst e
          have h1 := hAE _ (l2.sub (fun z hz => by simp [hz]))
          have := hrN.sum sN h1
          rwa [← addV_assoc, addV_self l1, addV_comm, addV_zero hx] at this
      · rcases List.mem_append.1 hy with e | e
        · rcases (am y).1 e with e' | ⟨z, hz, e'⟩
          · rw [e']; exact hr
          · have hz' : Spn m (L0 ++ [x]) z := hold z (Spn.mem sAE (by simp [hz]))
            rw [← e']
            unfold addIf
            split
            · exact hz'.sum sL0x hr
            · exact hz'
        · exact hold y (Spn.mem sAE (by rw [List.mem_append]; exact .inr e))
def docN (L : List Ln) : List Ln × List By := L.foldl docS ([], [])
theorem docN_snoc (L : List Ln) (x : Ln) : docN (L ++ [x]) = docS (docN L) x := by simp [docN]
theorem DI.all {m N : Nat} (hN : N ≤ 200) : ∀ (k : Nat) (L : List Ln), L.length = k → Szd m L → (∀ x ∈ L, x.1 < 2 ^ N) → DI m N L (docN L)
  | 0, L, hk, _, _ => by
    obtain rfl := List.eq_nil_of_length_eq_zero hk
    exact ⟨⟨List.Pairwise.nil, fun x hx => absurd hx (by simp [docN]), fun x hx => absurd hx (by simp [docN]), fun x hx => absurd hx (by simp [docN])⟩, fun x hx => absurd hx (by simp [docN]), fun x hx => absurd hx (by simp [docN]), fun x hx => absurd hx (by simp [docN]), SameS.refl⟩
  | k + 1, L, hk, hs, hb => by
    obtain ⟨M, x, e⟩ : ∃ M x, L = M ++ [x] := by
      have hne : L ≠ [] := fun e => by rw [e] at hk; simp at hk
      exact ⟨L.dropLast, L.getLast hne, (List.dropLast_concat_getLast hne).symm⟩
    subst e
    rw [docN_snoc]
    have sM : Szd m M := fun y hy => hs y (by simp [hy])
    exact (DI.all hN k M (by simp at hk; exact hk) sM (fun y hy => hb y (by simp [hy]))).step hN sM (hs x (by simp)) (hb x (by simp))
theorem docS_len (s : List Ln × List By) (x : Ln) : (docS s x).1.length = s.1.length ∨ (docS s x).1.length = s.1.length + 1 := by
  unfold docS
  split
  · exact .inl rfl
  · exact .inr (by simp [insS_len])
theorem docN_len (L : List Ln) : ∀ (M : List Ln), (docN L).1.length ≤ (docN (L ++ M)).1.length ∧ (docN (L ++ M)).1.length ≤ (docN L).1.length + M.length := by
  intro M
  induction M generalizing L with
  | nil => simp
  | cons x M ih =>
    have h1 := ih (L ++ [x])
    have h2 := docS_len (docN L) x
    rw [← docN_snoc] at h2
    rw [List.append_assoc, List.singleton_append] at h1
    simp only [List.length_cons]
    omega

/-! what follows -/
theorem sameS_len {m : Nat} {L M : List Ln} (h : SameS m L M) : Contra m L ↔ Contra m M := by
  unfold Contra
  constructor <;> rintro ⟨v, hv, h2⟩
  · exact ⟨v, (h v).1 hv, h2⟩
  · exact ⟨v, (h v).2 hv, h2⟩
theorem kep_same {m n : Nat} {L : List Ln} (hn : n ≤ 200) (hs : Szd m L) (hb : ∀ x ∈ L, x.1 < 2 ^ n) (hc : ¬ Contra m L) : SameS m L (kep L n) ∧ ∀ x ∈ res L n, x = zeroV m := by
  obtain ⟨h1, h2⟩ := res_zero hs hb
  obtain ⟨k1, k2, _⟩ := kep_rd hn hs hb
  have hz : ∀ x ∈ res L n, x = zeroV m := fun x hx => Classical.byContradiction fun hne => hc ((contra_iff k1 k2 h1 h2).2 ⟨x, hx, hne⟩)
  exact ⟨h2.trans (spn_append_zero k2 hz), hz⟩
theorem kep_contra {m n : Nat} {L : List Ln} (hn : n ≤ 200) (hs : Szd m L) (hb : ∀ x ∈ L, x.1 < 2 ^ n) : Contra m L ↔ ∃ x ∈ res L n, x.2 ≠ List.replicate m 0 := by
  obtain ⟨h1, h2⟩ := res_zero hs hb
  obtain ⟨k1, k2, _⟩ := kep_rd hn hs hb
  rw [contra_iff k1 k2 h1 h2]
  constructor
  · rintro ⟨x, hx, hne⟩
    refine ⟨x, hx, fun e => hne ?_⟩
    unfold zeroV
    rw [← (h1 x hx).1, ← e]
  · rintro ⟨x, hx, hne⟩
    exact ⟨x, hx, fun e => hne (by rw [e]; rfl)⟩
theorem doc_contra {m n : Nat} {L : List Ln} (hn : n ≤ 200) (hs : Szd m L) (hb : ∀ x ∈ L, x.1 < 2 ^ n) : Contra m L ↔ ∃ b ∈ (docN L).2, b ≠ List.replicate m 0 := by
  obtain ⟨k1, k2, k3, k4, k5⟩ := DI.all hn _ L rfl hs hb
  rw [contra_iff k1 k2 (E := (docN L).2.map zr) (fun x hx => by
    obtain ⟨b, hb, rfl⟩ := List.mem_map.1 hx
    exact ⟨rfl, k4 b hb⟩) k5]
  constructor
  · rintro ⟨x, hx, hne⟩
    obtain ⟨b, hb, rfl⟩ := List.mem_map.1 hx
    exact ⟨b, hb, fun e => hne (by rw [e]; rfl)⟩
  · rintro ⟨b, hb, hne⟩
    exact ⟨zr b, List.mem_map_of_mem hb, fun e => hne (congrArg Prod.snd e)⟩
theorem kep_doc {m n : Nat} {L : List Ln} (hn : n ≤ 200) (hs : Szd m L) (hb : ∀ x ∈ L, x.1 < 2 ^ n) (hc : ¬ Contra m L) : kep L n = (docN L).1 := by
  obtain ⟨k1, k2, _⟩ := kep_rd hn hs hb
  have h1 := (kep_same hn hs hb hc).1
  obtain ⟨d1, d2, d3, d4, d5⟩ := DI.all hn _ L rfl hs hb
  have hz : ∀ x ∈ (docN L).2.map zr, x = zeroV m := fun x hx => by
    obtain ⟨b, hb', rfl⟩ := List.mem_map.1 hx
    apply Classical.byContradiction
    intro hne
    exact hc ((doc_contra hn hs hb).2 ⟨b, hb', fun e => hne (by rw [e]; rfl)⟩)
  exact k1.uniq d1 k2 d2 (h1.symm.trans (d5.trans (spn_append_zero d2 hz)))
theorem kep_eq {m n : Nat} {L M : List Ln} (hn : n ≤ 200) (hs : Szd m L) (hb : ∀ x ∈ L, x.1 < 2 ^ n) (hs2 : Szd m M) (hb2 : ∀ x ∈ M, x.1 < 2 ^ n) (hc : ¬ Contra m L) (h : SameS m L M) : kep L n = kep M n := by
  obtain ⟨k1, k2, _⟩ := kep_rd hn hs hb
  obtain ⟨l1, l2, _⟩ := kep_rd hn hs2 hb2
  have hc2 : ¬ Contra m M := fun e => hc ((sameS_len h).2 e)
  exact k1.uniq l1 k2 l2 ((kep_same hn hs hb hc).1.symm.trans (h.trans (kep_same hn hs2 hb2 hc2).1))
theorem Rd.single {m : Nat} {L : List Ln} (h : Rd L) (hs : Szd m L) {v : Ln} {i : Nat} (hv : Spn m L v) (e : v.1 = 2 ^ i) : v ∈ L := by
  have hbit : ∀ j, v.1.testBit j = decide (i = j) := fun j => by rw [e, Nat.testBit_two_pow]
  have hbd := hv.bd h.bd
  have hfb : fb v.1 = i := fb_eq hbd (by rw [hbit]; simp) (fun j hj => by rw [hbit]; simp; omega)
  obtain ⟨y, hy, hfy⟩ := h.piv hs hv (by rw [e]; exact Nat.ne_of_gt (Nat.two_pow_pos i))
  have h1 := ssum_one v y (hs y hy) (by rw [hbit, hfy, hfb]; simp) L h.nodup (fun z hz hb => by
    rw [hbit] at hb
    simp at hb
    exact h.inj hz hy (by rw [← hb, hfy, hfb]))
  rw [if_pos hy, h.full hs hv] at h1
  rw [h1]
  exact hy
theorem nocontra0 {L : List Ln} (hs : Szd 0 L) : ¬ Contra 0 L := by
  rintro ⟨v, hv, h0, hne⟩
  have := hv.len hs
  refine hne ?_
  obtain ⟨a, b⟩ := v
  simp only at h0 this
  rw [h0, List.eq_nil_of_length_eq_zero this]
  rfl
theorem ssum_fold {m : Nat} (v : Ln) : ∀ (L : List Ln), Szd m L → ∀ a : Ln, a.2.length = m → L.foldl (fun acc y => if v.1.testBit (fb y.1) then addV acc y else acc) a = addV a (ssum m L v)
  | [], _, a, ha => by rw [List.foldl_nil, ssum, addV_zero ha]
  | y :: L, hs, a, ha => by
    have hL : Szd m L := fun z hz => hs z (by simp [hz])
    rw [List.foldl_cons]
    unfold ssum
    split
    · rw [ssum_fold v L hL _ (addV_len ha (hs y (by simp))), addV_assoc, addV_comm y]
    · rw [ssum_fold v L hL _ ha]
/-- each line is the sum of those that have its first numbers -/
theorem Rd.back {m : Nat} {L : List Ln} (h : Rd L) (hs : Szd m L) {v : Ln} (hv : Spn m L v) : L.foldl (fun acc y => if v.1.testBit (fb y.1) then addV acc y else acc) v = zeroV m := by
  rw [ssum_fold v L hs v (hv.len hs), h.full hs hv, addV_self (hv.len hs)]
/-- rows alone -/
def pj (x : Ln) : Ln := (x.1, [])
theorem gt_pj (L : List Ln) (t : Nat) : gt (L.map pj) t = pj (gt L t) := by
  unfold gt List.getD
  rw [List.getElem?_map]
  cases L[t]? <;> rfl
theorem swp_pj (L : List Ln) (a b : Nat) : swp (L.map pj) a b = (swp L a b).map pj := by
  unfold swp
  rw [List.map_set, List.map_set, gt_pj, gt_pj]
theorem clr_pj (L : List Ln) (k i : Nat) : clr (L.map pj) k i = (clr L k i).map pj := by
  unfold clr
  rw [List.map_map, List.length_map]
  refine List.map_congr_left (fun t _ => ?_)
  simp only [Function.comp, gt_pj]
  have e : (pj (gt L t)).1 = (gt L t).1 := rfl
  rw [e]
  split
  · rfl
  · unfold addV pj
    simp [xorL]
theorem elS_pj (i : Nat) (s : List Ln × Nat) : elS i (s.1.map pj, s.2) = ((elS i s).1.map pj, (elS i s).2) := by
  unfold elS
  simp only [← List.map_drop, List.findIdx?_map]
  have e : ((fun x : Ln => x.1.testBit i) ∘ pj) = fun x : Ln => x.1.testBit i := rfl
  rw [e]
  cases (s.1.drop s.2).findIdx? (fun x => x.1.testBit i) with
  | none => rfl
  | some a => simp only [swp_pj, clr_pj]
theorem elN_pj (L : List Ln) : ∀ n, elN (L.map pj) n = ((elN L n).1.map pj, (elN L n).2)
  | 0 => rfl
  | n + 1 => by
    unfold elN
    rw [elN_pj L n, elS_pj]
theorem kep_pj (L : List Ln) (n : Nat) : kep (L.map pj) n = (kep L n).map pj := by
  unfold kep
  rw [elN_pj, List.map_take]
/-- lines that are true of something linear -/
theorem true_spn {m : Nat} {L : List Ln} (ev : Nat → By) (h0 : ev 0 = List.replicate m 0) (ha : ∀ r s, ev (r ^^^ s) = xorL (ev r) (ev s)) (h : ∀ x ∈ L, x.2 = ev x.1) {v : Ln} (hv : Spn m L v) : v.2 = ev v.1 := by
  induction hv using Spn.ind with
  | zero => exact h0.symm
  | add _ hx ih =>
    unfold addV
    simp only
    rw [ha, ih, h _ hx]
theorem true_nocontra {m : Nat} {L : List Ln} (ev : Nat → By) (h0 : ev 0 = List.replicate m 0) (ha : ∀ r s, ev (r ^^^ s) = xorL (ev r) (ev s)) (h : ∀ x ∈ L, x.2 = ev x.1) : ¬ Contra m L := by
  rintro ⟨v, hv, e, hne⟩
  refine hne ?_
  have := true_spn ev h0 ha h hv
  obtain ⟨a, b⟩ := v
  simp only at e this
  rw [e, h0] at this
  rw [e, this]
  rfl

end Go.Proofs.YtpcndjnhpjhjkaaDoor
