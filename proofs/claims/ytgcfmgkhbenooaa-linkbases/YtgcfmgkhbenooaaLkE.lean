/- Contract of the document's Unescape; both are the same. -/
import Derived.Test.YtgcfmgkhbenooaaLkD
namespace Go.Proofs.Ytgcfmgkhbenooaa
open Go.RowKit
set_option linter.unusedVariables false

/-- the document's scan: the bytes of what is escaped, as they may be read -/
def unR : List UInt8 → Option (List UInt8)
  | [] => some []
  | b :: l => if b.toNat = 37 then (match l with
    | x :: y :: l' => if dgN x.toNat ≠ 16 ∧ dgN y.toNat ≠ 16 then (unR l').map (UInt8.ofNat (16 * dgN x.toNat + dgN y.toNat) :: ·) else none
    | _ => none) else (unR l).map (b :: ·)
termination_by l => l.length
decreasing_by all_goals simp_wf <;> omega
theorem unR_plain (b : UInt8) (l : List UInt8) (h : b.toNat ≠ 37) : unR (b :: l) = (unR l).map (b :: ·) := by
  rw [unR.eq_def (b :: l)]
  simp only [h, if_false]
theorem unR_short (b : UInt8) (l : List UInt8) (h : b.toNat = 37) (hl : l.length < 2) : unR (b :: l) = none := by
  rw [unR.eq_def (b :: l)]
  simp only [h, if_true]
  match l, hl with
  | [], _ => rfl
  | [x], _ => rfl
theorem unR_esc (b x y : UInt8) (l : List UInt8) (h : b.toNat = 37) : unR (b :: x :: y :: l) = if dgN x.toNat ≠ 16 ∧ dgN y.toNat ≠ 16 then (unR l).map (UInt8.ofNat (16 * dgN x.toNat + dgN y.toNat) :: ·) else none := by
  rw [unR.eq_def (b :: x :: y :: l)]
  simp only [h, if_true]

theorem pl37 : plN 37 = false := by decide
theorem hexD_dg (c : UInt8) (h : dgN c.toNat ≠ 16) : hexD (dgN c.toNat) = c := by
  have : ∀ m : Fin 256, dgN m.val ≠ 16 → hexD (dgN m.val) = UInt8.ofNat m.val := by decide +kernel
  have := this ⟨c.toNat, c.toNat_lt⟩ h
  rw [this]; simp
theorem dg_hexD (n : Nat) (h : n < 16) : dgN (hexD n).toNat = n := by
  have : ∀ m : Fin 16, dgN (hexD m.val).toNat = m.val := by decide +kernel
  exact this ⟨n, h⟩
theorem ofN_toN (n : Nat) (h : n < 256) : (UInt8.ofNat n).toNat = n := by rw [UInt8.toNat_ofNat']; exact Nat.mod_eq_of_lt h
theorem dg_lt {c : Nat} (h : dgN c ≠ 16) : dgN c < 16 := by have := dgN_le c; omega
theorem escV_yes (b x y : Nat) : (escV b x y).2 = true ↔ b = 37 ∧ dgN x ≠ 16 ∧ dgN y ≠ 16 ∧ plN (16 * dgN x + dgN y) = false := by
  unfold escV
  by_cases h : b = 37 ∧ dgN x ≠ 16 ∧ dgN y ≠ 16
  · rw [if_pos h]
    show (!plN (16 * dgN x + dgN y)) = true ↔ _
    rw [Bool.not_eq_true']
    exact ⟨fun g => ⟨h.1, h.2.1, h.2.2, g⟩, fun g => g.2.2.2⟩
  · rw [if_neg h]
    exact ⟨fun g => (nomatch g), fun g => absurd ⟨g.1, g.2.1, g.2.2.1⟩ h⟩
theorem escV_val {b x y : Nat} (h : (escV b x y).2 = true) : (escV b x y).1 = 16 * dgN x + dgN y := by
  obtain ⟨h1, h2, h3, _⟩ := (escV_yes b x y).1 h
  unfold escV
  rw [if_pos ⟨h1, h2, h3⟩]

/-- what Unescape reads is what the document reads, where it is written so again -/
theorem un_same : ∀ (n : Nat) (l m : List UInt8), l.length ≤ n → (unL l = some m ↔ unR l = some m ∧ escL m = l) := by
  intro n
  induction n with
  | zero =>
    intro l m h
    obtain rfl : l = [] := List.eq_nil_of_length_eq_zero (by omega)
    rw [unL.eq_def, unR.eq_def]
    simp only
    constructor
    · intro h; cases h; exact ⟨rfl, rfl⟩
    · exact fun h => h.1
  | succ n ih =>
    intro l m h
    match l, h with
    | [], _ =>
      rw [unL.eq_def, unR.eq_def]
      simp only
      constructor
      · intro h; cases h; exact ⟨rfl, rfl⟩
      · exact fun h => h.1
    | b :: l, h =>
      have hl : l.length ≤ n := by simpa using h
      have hesc : ∀ c m', escL (c :: m') = escB c ++ escL m' := fun c m' => by simp [escL]
      cases hpb : plN b.toNat
      · by_cases hb : b.toNat = 37
        · have hb' : b = 37 := by apply UInt8.toNat_inj.1; rw [hb]; rfl
          match l, hl with
          | [], _ => rw [unL_short b [] hpb (by simp), unR_short b [] hb (by simp)]; exact ⟨fun h => (nomatch h), fun h => (nomatch h.1)⟩
          | [x], _ => rw [unL_short b [x] hpb (by simp), unR_short b [x] hb (by simp)]; exact ⟨fun h => (nomatch h), fun h => (nomatch h.1)⟩
          | x :: y :: l', hl =>
            have hl' : l'.length ≤ n := by simp at hl; omega
            rw [unL_esc b x y l' hpb, unR_esc b x y l' hb]
            by_cases hd : dgN x.toNat ≠ 16 ∧ dgN y.toNat ≠ 16
            · rw [if_pos hd]
              have hx := dg_lt hd.1
              have hy := dg_lt hd.2
              have hcn := ofN_toN (16 * dgN x.toNat + dgN y.toNat) (by omega)
              have hB : plN (16 * dgN x.toNat + dgN y.toNat) = false → escB (UInt8.ofNat (16 * dgN x.toNat + dgN y.toNat)) = [b, x, y] := by
                intro hp
                unfold escB
                rw [hcn, if_neg (by rw [hp]; decide), show (16 * dgN x.toNat + dgN y.toNat) / 16 = dgN x.toNat by omega, show (16 * dgN x.toNat + dgN y.toNat) % 16 = dgN y.toNat by omega, hexD_dg x hd.1, hexD_dg y hd.2, hb']
              cases hpc : plN (16 * dgN x.toNat + dgN y.toNat)
              · have hv : (escV b.toNat x.toNat y.toNat).2 = true := (escV_yes _ _ _).2 ⟨hb, hd.1, hd.2, hpc⟩
                rw [if_pos hv, escV_val hv]
                constructor
                · intro hm
                  rw [Option.map_eq_some_iff] at hm
                  obtain ⟨m', h1, rfl⟩ := hm
                  obtain ⟨h2, h3⟩ := (ih l' m' hl').1 h1
                  refine ⟨by rw [h2]; rfl, ?_⟩
                  rw [hesc, hB hpc, h3]; rfl
                · rintro ⟨hm, he⟩
                  rw [Option.map_eq_some_iff] at hm
                  obtain ⟨m', h1, rfl⟩ := hm
                  rw [hesc, hB hpc] at he
                  have he' : escL m' = l' := by simpa using he
                  rw [(ih l' m' hl').2 ⟨h1, he'⟩]; rfl
              · have hv : ¬ (escV b.toNat x.toNat y.toNat).2 = true := fun hh => by
                  have := ((escV_yes _ _ _).1 hh).2.2.2
                  rw [hpc] at this; cases this
                rw [if_neg hv]
                constructor
                · intro hm; cases hm
                · rintro ⟨hm, he⟩
                  rw [Option.map_eq_some_iff] at hm
                  obtain ⟨m', h1, rfl⟩ := hm
                  rw [hesc] at he
                  have hB2 : escB (UInt8.ofNat (16 * dgN x.toNat + dgN y.toNat)) = [UInt8.ofNat (16 * dgN x.toNat + dgN y.toNat)] := by
                    unfold escB; rw [hcn, if_pos hpc]
                  rw [hB2] at he
                  have hc : UInt8.ofNat (16 * dgN x.toNat + dgN y.toNat) = b := by simpa using (List.cons.inj he).1
                  rw [← hc, hcn, hpc] at hpb
                  cases hpb
            · rw [if_neg hd]
              have hv : ¬ (escV b.toNat x.toNat y.toNat).2 = true := fun hh => by
                have := (escV_yes _ _ _).1 hh
                exact hd ⟨this.2.1, this.2.2.1⟩
              rw [if_neg hv]
              exact ⟨fun h => (nomatch h), fun h => (nomatch h.1)⟩
        · -- a byte that must be escaped stands as it is
          rw [unR_plain b l hb]
          have hL : unL (b :: l) = none := by
            match l with
            | [] => exact unL_short b [] hpb (by simp)
            | [x] => exact unL_short b [x] hpb (by simp)
            | x :: y :: l' =>
              rw [unL_esc b x y l' hpb, if_neg]
              intro hh
              exact hb ((escV_yes _ _ _).1 hh).1
          rw [hL]
          constructor
          · intro hm; cases hm
          · rintro ⟨hm, he⟩
            rw [Option.map_eq_some_iff] at hm
            obtain ⟨m', h1, rfl⟩ := hm
            rw [hesc] at he
            have hB2 : escB b = [37, hexD (b.toNat / 16), hexD (b.toNat % 16)] := by unfold escB; rw [if_neg (by rw [hpb]; decide)]
            rw [hB2] at he
            have hc : (37 : UInt8) = b := (List.cons.inj he).1
            exact absurd (by rw [← hc]; rfl) hb
      · have hb : b.toNat ≠ 37 := fun hh => by rw [hh, pl37] at hpb; cases hpb
        rw [unL_plain b l hpb, unR_plain b l hb]
        have hB : escB b = [b] := by unfold escB; rw [if_pos hpb]
        constructor
        · intro hm
          rw [Option.map_eq_some_iff] at hm
          obtain ⟨m', h1, rfl⟩ := hm
          obtain ⟨h2, h3⟩ := (ih l m' hl).1 h1
          refine ⟨by rw [h2]; rfl, ?_⟩
          rw [hesc, hB, h3]; rfl
        · rintro ⟨hm, he⟩
          rw [Option.map_eq_some_iff] at hm
          obtain ⟨m', h1, rfl⟩ := hm
          rw [hesc, hB] at he
          have he' : escL m' = l := by simpa using he
          rw [(ih l m' hl).2 ⟨h1, he'⟩]; rfl

theorem unV_some {l m : List UInt8} (h1 : unR l = some m) (h2 : escL m = l) : unV l = (m, 0) := by
  unfold unV
  rw [(un_same _ l m (Nat.le_refl _)).2 ⟨h1, h2⟩]
theorem unV_none {l : List UInt8} (h1 : unR l = none) : unV l = ([], 3) := by
  unfold unV
  cases h : unL l with
  | none => rfl
  | some m => have := ((un_same _ l m (Nat.le_refl _)).1 h).1; rw [h1] at this; cases this
theorem unV_other {l m : List UInt8} (h1 : unR l = some m) (h2 : escL m ≠ l) : unV l = ([], 3) := by
  unfold unV
  cases h : unL l with
  | none => rfl
  | some m' =>
    obtain ⟨g1, g2⟩ := (un_same _ l m' (Nat.le_refl _)).1 h
    rw [h1] at g1; cases g1
    exact absurd g2 h2

end Go.Proofs.Ytgcfmgkhbenooaa
