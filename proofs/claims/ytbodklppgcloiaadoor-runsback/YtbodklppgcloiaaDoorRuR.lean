/- Packed bytes and spans: the one is made of the other (mathematics). -/
import Derived.Test.YtbodklppgcloiaaDoorRuQ
import Derived.Test.YtbodklppgcloiaaDoorRwP
import Derived.Test.YtbodklppgcloiaaDoorRuH
namespace Go.Proofs.YtbodklppgcloiaaDoor
open Go.RowKit Go.Shelf
set_option linter.unusedVariables false

/-- the packed bytes of spans -/
def pkB : Nat → List (Nat × Nat) → By
  | _, [] => []
  | e, x :: l => UInt8.ofNat (x.1 - e) :: UInt8.ofNat (x.2 - x.1) :: pkB x.2 l
/-- spans one behind the other -/
def chn : Nat → List (Nat × Nat) → Prop
  | _, [] => True
  | e, x :: l => e ≤ x.1 ∧ x.1 < x.2 ∧ x.2 < 256 ∧ chn x.2 l
theorem chn_len : ∀ (l : List (Nat × Nat)) (e : Nat), e < 256 → chn e l → l.length + e ≤ 256
  | [], e, he, _ => by simp; omega
  | x :: l, e, he, ⟨h1, h2, h3, h4⟩ => by have := chn_len l x.2 h3 h4; simp only [List.length_cons]; omega
theorem fold_pk : ∀ (l : List (Nat × Nat)) (p : By) (e : Nat), chn e l → p.length + 2 * l.length < 1000 → ∃ z, l.foldl pkStep ((p, 0), e) = ((p ++ pkB e l, 0), z)
  | [], p, e, _, _ => ⟨e, by simp [pkB]⟩
  | x :: l, p, e, ⟨h1, h2, h3, h4⟩, hl => by
    simp only [List.length_cons] at hl
    rw [List.foldl_cons, show x = (x.1, x.2) from rfl, pk_one p x.1 x.2 e (x.1 - e) (x.2 - x.1) (by omega) (by omega) (by omega) (by omega) (by omega)]
    obtain ⟨z, hz⟩ := fold_pk l (p ++ [UInt8.ofNat (x.1 - e)] ++ [UInt8.ofNat (x.2 - x.1)]) x.2 h4 (by simp; omega)
    exact ⟨z, by rw [hz]; simp [pkB]⟩
theorem pkd_pkB : ∀ (l : List (Nat × Nat)) (e : Nat), chn e l → pkd e (pkB e l) = l
  | [], e, _ => rfl
  | x :: l, e, ⟨h1, h2, h3, h4⟩ => by
    have e1 : (UInt8.ofNat (x.1 - e)).toNat = x.1 - e := by rw [UInt8.toNat_ofNat']; omega
    have e2 : (UInt8.ofNat (x.2 - x.1)).toNat = x.2 - x.1 := by rw [UInt8.toNat_ofNat']; omega
    show (e + (UInt8.ofNat (x.1 - e)).toNat, e + (UInt8.ofNat (x.1 - e)).toNat + (UInt8.ofNat (x.2 - x.1)).toNat) :: pkd (e + (UInt8.ofNat (x.1 - e)).toNat + (UInt8.ofNat (x.2 - x.1)).toNat) (pkB x.2 l) = _
    rw [e1, e2, show e + (x.1 - e) = x.1 by omega, show x.1 + (x.2 - x.1) = x.2 by omega, pkd_pkB l x.2 h4]
theorem pkB_pkd : ∀ (t : By) (e : Nat), (∀ x ∈ pkd e t, x.1 < x.2) → pkB e (pkd e t) = t
  | [], e, _ => rfl
  | [a], e, h => by have := h (e + a.toNat, e + a.toNat) (by simp [pkd]); simp at this
  | a :: b :: t, e, h => by
    have ih := pkB_pkd t (e + a.toNat + b.toNat) (fun x hx => h x (by simp [pkd, hx]))
    show UInt8.ofNat (e + a.toNat - e) :: UInt8.ofNat (e + a.toNat + b.toNat - (e + a.toNat)) :: pkB (e + a.toNat + b.toNat) (pkd (e + a.toNat + b.toNat) t) = _
    rw [ih, show e + a.toNat - e = a.toNat by omega, show e + a.toNat + b.toNat - (e + a.toNat) = b.toNat by omega]
    simp
theorem pkd_le : ∀ (t : By) (e : Nat) (x : Nat × Nat), x ∈ pkd e t → x.2 ≤ e + 255 * t.length
  | [], e, x, h => by simp [pkd] at h
  | [a], e, x, h => by
    simp [pkd] at h
    subst h
    have := a.toNat_lt
    simp; omega
  | a :: b :: t, e, x, h => by
    have h1 := a.toNat_lt
    have h2 := b.toNat_lt
    simp only [pkd, List.mem_cons] at h
    simp only [List.length_cons]
    rcases h with rfl | h
    · show e + a.toNat + b.toNat ≤ _; omega
    · have := pkd_le t _ x h; omega
theorem toI_cons (x : Nat × Nat) (l : List (Nat × Nat)) : toI (x :: l) = ((x.1 : Int), (x.2 : Int)) :: toI l := rfl
theorem chn_of_ok {n : Nat} (hn : n ≤ 160) : ∀ (l pre : List (Nat × Nat)), gOk n (toI (pre ++ l)) → chn (gEnd (toI pre)).toNat l
  | [], pre, _ => trivial
  | x :: l, pre, h => by
    have h1 : gNext n (gEnd (toI pre)) ((x.1 : Int), (x.2 : Int)) = true := by
      have h2 := h pre.length ((x.1 : Int), (x.2 : Int)) (by rw [toI_append, toI_cons, List.getElem?_append_right (by rw [toI_length]; exact Nat.le_refl _), toI_length]; simp)
      rwa [toI_append, List.take_append_of_le_length (by rw [toI_length]; exact Nat.le_refl _), List.take_of_length_le (by rw [toI_length]; exact Nat.le_refl _)] at h2
    obtain ⟨g1, g2, g3⟩ := gNext_iff.1 h1
    simp only at g1 g2 g3
    have ih := chn_of_ok hn l (pre ++ [x]) (by rw [List.append_assoc]; exact h)
    rw [toI_append, show toI [x] = [((x.1 : Int), (x.2 : Int))] from rfl, gEnd_snoc] at ih
    refine ⟨by omega, by omega, by omega, ?_⟩
    simpa using ih
theorem chn_ok {n : Nat} (hn : n ≤ 160) {l : List (Nat × Nat)} (h : gOk n (toI l)) : chn 0 l := by
  have := chn_of_ok hn l [] h
  simpa [toI, gEnd] using this
theorem packS_eq {l : List (Nat × Nat)} (h : chn 0 l) : (packS l).1 = (pkB 0 l, 0) := by
  obtain ⟨z, hz⟩ := fold_pk l [] 0 h (by have := chn_len l 0 (by omega) h; simp; omega)
  unfold packS
  rw [hz]
  rfl
theorem toJ_eq (l : List (Nat × Nat)) : toJ l = toI l := rfl
theorem chk_le {n : Nat} {s : By} (hc : chk n s = true) : n ≤ 160 := by
  unfold chk at hc
  simp at hc
  omega
theorem runs_ok {n : Nat} {s : By} (hc : chk n s = true) : gOk n (toI (runsL s n)) := (rl_ok s n (n + 1) (Nat.le_refl _)).1
/-- Pack, where there is a set -/
theorem pack_eq {n : Nat} {s : By} (hc : chk n s = true) : packR n s = pkB 0 (runsL s n) ∧ packE n s = 0 := by
  have h := packS_eq (chn_ok (chk_le hc) (runs_ok hc))
  have hI : chkI n s = true := by rw [chkI_nat]; exact hc
  unfold packR packE
  rw [if_pos hI, if_pos hI, Int.toNat_natCast, h]
  exact ⟨by rw [if_pos rfl], rfl⟩
/-- gather's two answers, where there is a set -/
theorem gat_runs {n : Nat} {s : By} (hc : chk n s = true) (no : Int) : gatR n (toI (runsL s n)) = s ∧ gatE n no (toI (runsL s n)) = 0 := by
  obtain ⟨h1, h2⟩ := set_runs hc
  refine ⟨h1, ?_⟩
  have hn := chk_le hc
  have hok := runs_ok hc
  unfold gatE at h2 ⊢
  rw [if_neg (by omega), if_pos hok] at h2 ⊢
  exact h2
/-- what is packed is read as it was -/
theorem unpack_pack {n : Nat} {s : By} (hc : chk n s = true) : unpR n (packR n s) = s ∧ unpE n (packR n s) = 0 := by
  unfold unpR unpE
  rw [(pack_eq hc).1, pkd_pkB _ _ (chn_ok (chk_le hc) (runs_ok hc)), toJ_eq]
  exact gat_runs hc 3
theorem xor_facts {n : Nat} {a b : By} (ha : chk n a = true) (hb : chk n b = true) : chk n (xorL a b) = true ∧ (xorL a b).length = a.length ∧ ∀ i, bitAt (xorL a b) i = (bitAt a i != bitAt b i) := by
  obtain ⟨a1, a2, _⟩ := chk_iff.1 ha
  obtain ⟨b1, b2, _⟩ := chk_iff.1 hb
  have h : a.length = b.length := by omega
  have e1 : bothR (fun x y => x &&& ~~~y) a b = sMinus a b := (bothR_eq _ _ _ h).2
  have e2 : bothR (fun x y => x &&& ~~~y) b a = sMinus b a := (bothR_eq _ _ _ h.symm).2
  have hl : (sMinus a b).length = (sMinus b a).length := by rw [sMinus_len _ _ h, sMinus_len _ _ h.symm, h]
  have e3 : xorL a b = sOr (sMinus a b) (sMinus b a) := by
    unfold xorL
    rw [e1, e2]
    exact (bothR_eq _ _ _ hl).2
  have c1 : chk n (sMinus a b) = true := chk_zip (q := fun x y => x && !y) (fun x y j hj => by rw [and_bit, not_bit y j hj]) rfl ha hb
  have c2 : chk n (sMinus b a) = true := chk_zip (q := fun x y => x && !y) (fun x y j hj => by rw [and_bit, not_bit y j hj]) rfl hb ha
  rw [e3]
  refine ⟨chk_zip (q := fun x y => x || y) (fun x y j _ => or_bit x y j) rfl c1 c2, by rw [sOr_len _ _ hl, sMinus_len _ _ h], fun i => ?_⟩
  rw [sOr_bit _ _ hl, sMinus_bit _ _ h, sMinus_bit _ _ h.symm]
  cases bitAt a i <;> cases bitAt b i <;> rfl
theorem xor_back {n : Nat} {a b : By} (ha : chk n a = true) (hb : chk n b = true) : xorL a (xorL a b) = b ∧ xorL b (xorL a b) = a := by
  obtain ⟨c, l, hx⟩ := xor_facts ha hb
  obtain ⟨_, l1, h1⟩ := xor_facts ha c
  obtain ⟨_, l2, h2⟩ := xor_facts hb c
  obtain ⟨a1, a2, _⟩ := chk_iff.1 ha
  obtain ⟨b1, b2, _⟩ := chk_iff.1 hb
  refine ⟨bits_ext (by omega) fun i _ => ?_, bits_ext (by omega) fun i _ => ?_⟩
  · rw [h1, hx]; cases bitAt a i <;> cases bitAt b i <;> rfl
  · rw [h2, hx]; cases bitAt a i <;> cases bitAt b i <;> rfl
theorem rl_none {s : By} (h : ∀ i, bitAt s i = false) (k : Nat) : (rl s k).1 = [] ∧ (rl s k).2 = k := by
  induction k with
  | zero => exact ⟨rfl, rfl⟩
  | succ k ih =>
    rw [rl_gap (h k) (by omega)]
    exact ⟨ih.1, rfl⟩
/-- what is packed is empty just where nothing is in the set -/
theorem pack_none {n : Nat} {s : By} (hc : chk n s = true) : packR n s = [] ↔ ∀ i, bitAt s i = false := by
  constructor
  · intro h
    have h1 := (unpack_pack hc).1
    rw [h] at h1
    have h2 : gOk n (toI []) := gOk_nil _
    have h3 : toI (runsL s n) = toI [] := by
      have := pkd_pkB _ _ (chn_ok (chk_le hc) (runs_ok hc))
      rw [← (pack_eq hc).1, h] at this
      rw [← this]; rfl
    intro i
    rcases Nat.lt_or_ge i n with hi | hi
    · cases hb : bitAt s i with
      | false => rfl
      | true =>
        have hm : (i : Int) ∈ listN s n := (listN_mem s n i).2 ⟨i, hi, hb, rfl⟩
        have hnum := rl_nums s (n + 1)
        have h4 : (rl s (n + 1)).2 = n + 1 := rl_snd (chk_hi hc n (Nat.le_refl _))
        rw [h4] at hnum
        have h5 : gNums (toI (rl s (n + 1)).1) = [] := by
          show gNums (toI (runsL s n)) = []
          rw [h3]; rfl
        rw [h5] at hnum
        have : (i : Int) ∈ listN s (n + 1) := (listN_mem s (n + 1) i).2 ⟨i, by omega, hb, rfl⟩
        rw [← hnum] at this
        simp at this
    · exact chk_hi hc i hi
  · intro h
    rw [(pack_eq hc).1, show runsL s n = [] from (rl_none h (n + 1)).1]
    rfl
theorem turns_facts {n : Nat} {a b : By} (ha : chk n a = true) (hb : chk n b = true) :
    patE n a b = 0 ∧ appE n a (patR n a b) = 0 ∧ appE n b (patR n a b) = 0 ∧ patE n a a = 0 ∧ appR n a (patR n a b) = b ∧ appR n b (patR n a b) = a ∧ patR n a a = [] ∧ (patR n a b = [] ↔ a = b) := by
  have ka : chkI n a = true := by rw [chkI_nat]; exact ha
  have kb : chkI n b = true := by rw [chkI_nat]; exact hb
  obtain ⟨c, l, hx⟩ := xor_facts ha hb
  obtain ⟨c2, l2, hx2⟩ := xor_facts ha ha
  obtain ⟨x1, x2⟩ := xor_back ha hb
  obtain ⟨u1, u2⟩ := unpack_pack c
  have p1 : patR n a b = packR n (xorL a b) := by unfold patR; rw [if_pos ⟨ka, kb⟩]
  have p2 : patR n a a = packR n (xorL a a) := by unfold patR; rw [if_pos ⟨ka, ka⟩]
  obtain ⟨a1, a2, _⟩ := chk_iff.1 ha
  obtain ⟨b1, b2, _⟩ := chk_iff.1 hb
  refine ⟨?_, ?_, ?_, ?_, ?_, ?_, ?_, ?_⟩
  · unfold patE; rw [if_pos ⟨ka, kb⟩]; exact (pack_eq c).2
  · unfold appE; rw [if_pos ka, p1]; exact u2
  · unfold appE; rw [if_pos kb, p1]; exact u2
  · unfold patE; rw [if_pos ⟨ka, ka⟩]; exact (pack_eq c2).2
  · unfold appR; rw [p1, if_pos ⟨ka, u2⟩, u1, x1]
  · unfold appR; rw [p1, if_pos ⟨kb, u2⟩, u1, x2]
  · rw [p2, pack_none c2]
    intro i; rw [hx2]; cases bitAt a i <;> rfl
  · rw [p1, pack_none c]
    constructor
    · intro h
      refine bits_ext (by omega) fun i _ => ?_
      have := h i
      rw [hx] at this
      revert this
      cases bitAt a i <;> cases bitAt b i <;> simp
    · rintro rfl i
      rw [hx]; cases bitAt a i <;> rfl
end Go.Proofs.YtbodklppgcloiaaDoor
