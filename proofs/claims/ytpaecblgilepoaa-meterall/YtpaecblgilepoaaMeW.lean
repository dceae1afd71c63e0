/- MeterAll: a share and what is expected of it; a share that is refused. -/
import Derived.Test.YtpaecblgilepoaaMeV
namespace Go.Proofs.Ytpaecblgilepoaa
open Go.RowKit
set_option linter.unusedVariables false
attribute [local go_sem] Oper.semAt_some

/-- a share and what is expected of it -/
structure AI (w : World) (b a : Nat) (q : Int) (f : Nat → Qu) (L : Nat → List Int) (wr : World) : Prop where
  ex : ∃ V U, ShAt wr w.heap.size b q f V ∧ WA wr w.heap.size a V U L
  be : Below w.heap.size w wr
theorem WA.up {w w' : World} {B a : Nat} {V U : Nat → Value} {L : Nat → List Int} (h2 : WA w B a V U L) (hb : Below w.heap.size w w') : WA w' B a V U L := by
  have k1 := hb.block a h2.lt
  exact ⟨h2.hb, by rw [k1]; exact h2.blk, fun p hp => (World.cell?_of_block k1).trans (h2.us p hp), fun p hp => ownI_keep (h2.own p hp) (fun k hk => hb.block k (World.ownsRow.lt (show World.ownsRow _ _ _ _ _ _ _ from h2.own p hp) k hk).2), h2.uu, h2.uv⟩
theorem AI.up {w : World} {b a : Nat} {q : Int} {f : Nat → Qu} {L : Nat → List Int} {x y : World} (h : AI w b a q f L x) (hb : Below x.heap.size x y) : AI w b a q f L y := by
  obtain ⟨V, U, h1, h2⟩ := h.ex
  exact ⟨⟨V, U, h1.up hb, h2.up hb⟩, h.be.trans (hb.mono h.be.size)⟩
theorem WA.grow {w w1 : World} {B b a : Nat} {q : Int} {f : Nat → Qu} {V U : Nat → Value} {L : Nat → List Int} (h : WA w B a V U L) (hS : ShAt w B b q f V) (p : Nat) (hp : p < 16) (g cap : Nat) (l : List Int)
    (hkeep : ∀ k, k < w.heap.size → (U p).ownBlock ≠ some k → w1.heap[k]? = w.heap[k]?) (hat : (U p).ownBlock = some g ∨ w.heap.size ≤ g) (hown : OwnI w1 B (.slice (some ⟨g, 0, none⟩) l.length cap) l) :
    WA (w1.setCell ⟨a, p, none⟩ (.slice (some ⟨g, 0, none⟩) l.length cap)) B a V (qup U p (.slice (some ⟨g, 0, none⟩) l.length cap)) (qup L p l) ∧ ShAt (w1.setCell ⟨a, p, none⟩ (.slice (some ⟨g, 0, none⟩) l.length cap)) B b q f V := by
  obtain ⟨ca, hca⟩ := h.blk
  obtain ⟨cb, hcb⟩ := hS.blk
  have ka : w1.heap[a]? = w.heap[a]? := hkeep a h.lt (fun e => (h.own p hp).notB hca (by decide) e)
  have kb : w1.heap[b]? = w.heap[b]? := hkeep b hS.lt (fun e => (h.own p hp).notB hcb (by decide) e)
  have ku : ∀ k, k < 16 → k ≠ p → ∀ z, (U k).ownBlock = some z → w1.heap[z]? = w.heap[z]? := fun k hk hn z hz =>
    hkeep z (World.ownsRow.lt (show World.ownsRow _ _ _ _ _ _ _ from h.own k hk) z hz).2 (fun e => by
      rcases h.uu k p hk hp hn with h1 | h1
      · rw [h1] at hz; cases hz
      · exact h1 (hz.trans e.symm))
  have kv : ∀ k, k < 16 → ∀ z, (V k).ownBlock = some z → w1.heap[z]? = w.heap[z]? := fun k hk z hz =>
    hkeep z (World.ownsRow.lt (show World.ownsRow _ _ _ _ _ _ _ from hS.own k hk) z hz).2 (fun e => by
      rcases h.uv p k hp hk with h1 | h1
      · rw [h1] at e; cases e
      · exact h1 (e.trans hz.symm))
  have oth : ∀ x, x ≠ a → (w1.setCell ⟨a, p, none⟩ (.slice (some ⟨g, 0, none⟩) l.length cap)).heap[x]? = w1.heap[x]? := fun x hx => Below.heap_setCell _ _ _ _ hx
  have ga : g ≠ a := fun e => hown.notB (ka.trans hca) (by decide) (by rw [e]; rfl)
  have nu : ∀ k, k < 16 → ∀ z, (U k).ownBlock = some z → z ≠ a := fun k hk z hz e => (h.own k hk).notB hca (by decide) (hz.trans (by rw [e]))
  have nv : ∀ k, k < 16 → ∀ z, (V k).ownBlock = some z → z ≠ a := fun k hk z hz e => (hS.own k hk).notB hca (by decide) (hz.trans (by rw [e]))
  have nba : b ≠ a := fun e => by rw [e] at hcb; exact two_types hca hcb (by decide)
  have sg : ∀ k, k < 16 → k ≠ p → (U k).ownBlock ≠ some g := fun k hk hn e => by
    rcases hat with h1 | h1
    · rcases h.uu k p hk hp hn with h2 | h2
      · rw [h2] at e; cases e
      · exact h2 (e.trans h1.symm)
    · have := (World.ownsRow.lt (show World.ownsRow _ _ _ _ _ _ _ from h.own k hk) g e).2
      omega
  have sv : ∀ k, k < 16 → (V k).ownBlock ≠ some g := fun k hk e => by
    rcases hat with h1 | h1
    · rcases h.uv p k hp hk with h2 | h2
      · rw [h2] at h1; cases h1
      · exact h2 (h1.trans e.symm)
    · have := (World.ownsRow.lt (show World.ownsRow _ _ _ _ _ _ _ from hS.own k hk) g e).2
      omega
  refine ⟨⟨h.hb, ⟨_, heap_setCell_same w1 a p ca _ _ (ka.trans hca)⟩, fun k hk => ?_, fun k hk => ?_, fun k k' hk hk' hn => ?_, fun k k' hk hk' => ?_⟩, hS.keep ((oth b nba).trans kb) (fun k z hk hz => (oth z (nv k hk z hz)).trans (kv k hk z hz))⟩
  · by_cases e : k = p
    · subst e
      rw [qup_same]
      exact World.cell?_setCell_same _ _ _ ((World.cell?_of_block ka).trans (h.us k hk))
    · rw [qup_other U p _ e, cellB (fun h => e h.symm)]
      exact (World.cell?_of_block ka).trans (h.us k hk)
  · by_cases e : k = p
    · subst e
      rw [qup_same, qup_same]
      exact ownI_keep hown (fun z hz => oth z (fun ez => ga (by
        have : some g = some z := hz
        cases this
        exact ez)))
    · rw [qup_other U p _ e, qup_other L p _ e]
      exact ownI_keep (h.own k hk) (fun z hz => (oth z (nu k hk z hz)).trans (ku k hk e z hz))
  · by_cases e : k = p
    · subst e
      rw [qup_same, qup_other U k _ (fun h => hn h.symm)]
      exact .inr (fun e2 => sg k' hk' (fun h => hn h.symm) e2.symm)
    · rw [qup_other U p _ e]
      by_cases e' : k' = p
      · subst e'
        rw [qup_same]
        exact .inr (fun e2 => sg k hk e e2)
      · rw [qup_other U p _ e']
        exact h.uu k k' hk hk' hn
  · by_cases e : k = p
    · subst e
      rw [qup_same]
      exact .inr (fun e2 => sv k' hk' e2.symm)
    · rw [qup_other U p _ e]
      exact h.uv k k' hk hk'
theorem AI.weigh {w : World} {b a : Nat} {q : Int} {k : Nat} {L : Nat → List Int} {x : World} (h : AI w b a q (fW k) L x) (hk : k < 15) :
    Calls Try.prog 20 #[.pointer (some ⟨b, 0, none⟩), .int .i64 ((k + 1 : Nat) : Int), .int .i64 (1 + ((k + 1 : Nat) : Int) % 3)] x fun e w' => e = .returned (.int .i64 0) ∧ AI w b a q (fW (k + 1)) L w' := by
  obtain ⟨V, U, h1, h2⟩ := h.ex
  refine (weigh_ok w.heap.size b (k + 1) (1 + ((k + 1 : Nat) : Int) % 3) q (fW k) V x (by omega) (by omega) h1).mono ?_
  rintro e w' ⟨he, V', s1, s2⟩
  rw [fW_step] at s1
  exact ⟨he, ⟨V', U, s1, h2.step h1 s2⟩, h.be.trans (s2.below h1)⟩
theorem AI.add {w : World} {b a : Nat} {q : Int} {f : Nat → Qu} {L : Nat → List Int} {x : World} (h : AI w b a q f L x) (p s : Int) :
    Calls Try.prog 22 #[.pointer (some ⟨b, 0, none⟩), .int .i64 p, .int .i64 s] x fun e w' => e = .returned (.int .i64 (addE f p s)) ∧ AI w b a q (addF f p s) L w' := by
  obtain ⟨V, U, h1, h2⟩ := h.ex
  refine (add_any w.heap.size b p s q f V x h1).mono ?_
  rintro e w' ⟨he, V', s1, s2⟩
  exact ⟨he, ⟨V', U, s1, h2.step h1 s2⟩, h.be.trans (s2.below h1)⟩
/-- what is known of a share ahead of its turns, behind i acts -/
structure AK (f : Nat → Qu) (i : Nat) : Prop where
  fa : FA f
  ma : mA f ≤ (i : Int) * 65536
  le : ∀ p, p < 16 → (f p).l.length ≤ i
theorem AK.zero : AK (fW 15) 0 := ⟨fW_FA, by rw [fW_mA]; decide, fun p _ => by unfold fW; split <;> exact Nat.le_refl 0⟩
theorem AK.skip {f : Nat → Qu} {i : Nat} (h : AK f i) : AK f (i + 1) := ⟨h.fa, by have := h.ma; omega, fun p hp => Nat.le_succ_of_le (h.le p hp)⟩
theorem addE_zero {f : Nat → Qu} {p s : Int} (h : addE f p s = 0) : 1 ≤ p ∧ p ≤ 15 ∧ 1 ≤ s ∧ s ≤ 65536 ∧ (f p.toNat).l.length < 100 ∧ addF f p s = qup f p.toNat ⟨(f p.toNat).w, (f p.toNat).c, (f p.toNat).l ++ [s]⟩ := by
  have h0 := h
  unfold addE at h
  split at h
  · cases h
  · rename_i h1
    split at h
    · cases h
    · split at h
      · cases h
      · rename_i h2
        refine ⟨by omega, by omega, by omega, by omega, by omega, ?_⟩
        unfold addF
        rw [if_pos h0]
theorem AK.add {f : Nat → Qu} {i : Nat} (h : AK f i) (p s : Int) : AK (addF f p s) (i + 1) := by
  by_cases he : addE f p s = 0
  · obtain ⟨p1, p2, s1, s2, hl, e⟩ := addE_zero he
    obtain ⟨a1, a2⟩ := add_FA h.fa (p := p.toNat) (by omega) ⟨s1, s2⟩ hl
    rw [e]
    refine ⟨a1, by rw [a2]; have := h.ma; omega, fun k hk => ?_⟩
    by_cases ek : k = p.toNat
    · subst ek
      rw [qup_same]
      have := h.le _ hk
      simp
      omega
    · rw [qup_other f _ _ ek]
      have := h.le k hk
      omega
  · unfold addF
    rw [if_neg he]
    exact h.skip
theorem addF_row {f : Nat → Qu} {p s : Int} (h : addE f p s = 0) : (fun k => (addF f p s k).l) = qup (fun k => (f k).l) p.toNat ((f p.toNat).l ++ [s]) := by
  rw [(addE_zero h).2.2.2.2.2]
  funext k
  by_cases ek : k = p.toNat
  · subst ek
    rw [qup_same, qup_same]
  · rw [qup_other f _ _ ek, qup_other (fun k => (f k).l) _ _ ek]
theorem addF_no {f : Nat → Qu} {p s : Int} (h : addE f p s ≠ 0) : addF f p s = f := by
  unfold addF
  rw [if_neg h]
set_option maxRecDepth 100000 in
set_option maxHeartbeats 4000000 in
theorem meterAll_bad (q : Int) (v : Value) (w : World) (hq : ¬ (1 ≤ q ∧ q ≤ 65536)) :
    Calls Try.prog 6 #[.int .i64 q, v] w fun e w' => e = .returned (.bool true) ∧ Below w.heap.size w w' := by
  have h1 := hide (newShare_no q w hq)
  have hc : q < 1 ∨ (¬ q < 1 ∧ 65536 < q) := by omega
  clear hq
  rcases hc with hc | ⟨hc, hc2⟩
  · go_enter Try.func6, Try.ntmps6
    go_wp2_with fail
    refine (unhide h1).mono ?_
    rintro e w1 ⟨rfl, rfl⟩
    go_wp2_with fail
    refine (mawake_any w).mono ?_
    rintro e w2 ⟨rfl, b2⟩
    have B2 := hide b2
    clear b2
    go_wp2_with fail
    refine (mawake_any w2).mono ?_
    rintro e w3 ⟨rfl, b3⟩
    have B3 := hide ((unhide B2).trans (b3.mono (unhide B2).size))
    clear b3 B2
    go_wp2
    go_ret
    exact ⟨rfl, unhide B3⟩
  · go_enter Try.func6, Try.ntmps6
    go_wp2_with fail
    refine (unhide h1).mono ?_
    rintro e w1 ⟨rfl, rfl⟩
    go_wp2_with fail
    refine (mawake_any w).mono ?_
    rintro e w2 ⟨rfl, b2⟩
    have B2 := hide b2
    clear b2
    go_wp2_with fail
    refine (mawake_any w2).mono ?_
    rintro e w3 ⟨rfl, b3⟩
    have B3 := hide ((unhide B2).trans (b3.mono (unhide B2).size))
    clear b3 B2
    go_wp2
    go_ret
    exact ⟨rfl, unhide B3⟩
end Go.Proofs.Ytpaecblgilepoaa
