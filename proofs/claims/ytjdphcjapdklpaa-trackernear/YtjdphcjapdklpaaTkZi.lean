/- What Find answers: mathematics. -/
import Derived.Test.YtjdphcjapdklpaaTkZh
namespace Go.Proofs.Ytjdphcjapdklpaa
open Go.RowKit Go.Sort
set_option linter.unusedVariables false

theorem nodes_inj {k : By} {s : List Nt} (h : SlOk k s) {now : Int} {p q : Nt} (hp : p ∈ nodesF now s) (hq : q ∈ nodesF now s) (e : p.nd = q.nd) : p = q := by
  obtain ⟨hpm, hpc⟩ := List.mem_filter.1 hp
  obtain ⟨hqm, hqc⟩ := List.mem_filter.1 hq
  obtain ⟨i, hi⟩ := List.getElem?_of_mem hpm
  obtain ⟨j, hj⟩ := List.getElem?_of_mem hqm
  rcases h.at_ i p hi with rfl | ⟨h1, _⟩
  · rw [zN_cnt] at hpc; cases hpc
  rcases h.at_ j q hj with rfl | ⟨h2, _⟩
  · rw [zN_cnt] at hqc; cases hqc
  have hij : i = j := by omega
  subst hij
  rw [hi] at hj
  exact Option.some.inj hj
theorem nd_inj {f : Names} (hf : ∀ k s, f k = some s → SlOk k s) {k : By} {now : Int} {p q : Nt} (hp : p ∈ ndF f k now) (hq : q ∈ ndF f k now) (e : p.nd = q.nd) : p = q := by
  unfold ndF at hp hq
  split at hp
  · rename_i h
    rw [if_pos h] at hq
    exact nodes_inj (ok_get hf k) hp hq e
  · cases hp
theorem hasI_t {l : List Int} {n : Int} : hasI l n = true ↔ n ∈ l := by
  unfold hasI
  rw [List.any_eq_true]
  constructor
  · rintro ⟨x, hx, h⟩
    rw [decide_eq_true_iff] at h
    exact h ▸ hx
  · exact fun h => ⟨n, h, by simp⟩
theorem fd_zero {f : Names} {k : By} {x y K now : Int} (h : fdE f k x y K now = 0) : ¬ K < 0 ∧ bdL f k x y now = nearF x y (ndF f k now) := by
  unfold fdE bdE at h
  split at h
  · cases h
  rename_i hK
  split at h
  · rename_i hb
    exact ⟨hK, by unfold bdL; rw [if_pos hb]⟩
  · cases h
theorem fd_no {f : Names} {k : By} {x y K now : Int} (h : fdE f k x y K now ≠ 0) : fdL f k x y K now = [] := by
  unfold fdE bdE at h
  unfold fdL
  split
  · rfl
  rename_i hK
  rw [if_neg hK] at h
  unfold bdL
  split at h
  · rename_i hb
    rw [if_pos hb]
    split at h
    · rename_i h0
      rw [show nearF x y (ndF f k now) = [] from List.length_eq_zero_iff.1 (by rw [near_len]; exact h0)]
      simp
    · exact absurd rfl h
  · rename_i hb
    rw [if_neg hb]
    simp
theorem fd_len {f : Names} {k : By} {x y K now : Int} (h : fdE f k x y K now = 0) : ((fdL f k x y K now).length : Int) = min K (ndF f k now).length := by
  obtain ⟨h1, h2⟩ := fd_zero h
  unfold fdL
  rw [if_neg h1, h2, List.length_map, List.length_take, near_len]
  omega
theorem fd_le {f : Names} (hf : ∀ k s, f k = some s → SlOk k s) (k : By) (x y K now : Int) : (fdL f k x y K now).length ≤ 16 := by
  unfold fdL
  split
  · simp
  · rw [List.length_map, List.length_take]
    have := bd_len hf k x y now
    omega
theorem fd_near {f : Names} (hf : ∀ k s, f k = some s → SlOk k s) {k : By} {x y K now : Int} (h : fdE f k x y K now = 0) {p q : Nt} (hp : p ∈ ndF f k now) (hq : q ∈ ndF f k now)
    (h1 : hasI (fdL f k x y K now) p.nd = true) (h2 : hasI (fdL f k x y K now) q.nd = false) : ¬ distA x y q.x q.y < distA x y p.x p.y := by
  obtain ⟨g1, g2⟩ := fd_zero h
  unfold fdL at h1 h2
  rw [if_neg g1, g2] at h1 h2
  obtain ⟨s1, s2⟩ := near_spec x y (ndF f k now)
  rw [hasI_t] at h1
  obtain ⟨p', hp', e⟩ := List.mem_map.1 h1
  have hpm : p' ∈ ndF f k now := s1.mem_iff.1 (List.mem_of_mem_take hp')
  obtain rfl := nd_inj hf hpm hp e
  have hq2 : q ∉ (nearF x y (ndF f k now)).take K.toNat := fun hm => by
    have := hasI_t.2 (List.mem_map_of_mem (f := Nt.nd) hm)
    rw [this] at h2
    cases h2
  have hq3 : q ∈ (nearF x y (ndF f k now)).drop K.toNat := by
    have := s1.mem_iff.2 hq
    rw [← List.take_append_drop K.toNat (nearF x y (ndF f k now))] at this
    rcases List.mem_append.1 this with h | h
    · exact absurd h hq2
    · exact h
  rw [← List.take_append_drop K.toNat (nearF x y (ndF f k now)), List.pairwise_append] at s2
  have := s2.2.2 _ hp' _ hq3
  omega
end Go.Proofs.Ytjdphcjapdklpaa
