/- meter: the steps of the share and of the document's share, side by side. -/
import Derived.Test.YtlmmincpjflkdaaMsJ
import Derived.Test.YtlmmincpjflkdaaMsE
namespace Go.Proofs.Ytlmmincpjflkdaa
open Go.RowKit
set_option linter.unusedVariables false
attribute [local go_sem] Oper.semAt_some

/-- no sizes of the document's lie where the share's lie -/
def Sep (V : Nat → Value) (D : List Dr) : Prop := ∀ x ∈ D, ∀ p, x.a = some p → ∀ k, k < 16 → (V k).ownBlock ≠ some p.block
theorem Sep.nil (V : Nat → Value) : Sep V [] := fun x hx => by cases hx
theorem Sep.step {w w' : World} {b : Nat} {V V' : Nat → Value} {D : List Dr} (h : Sep V D) (hD : ∀ x ∈ D, VOk w x) (hs : ShStep w w' b V V') : Sep V' D := fun x hx p hp k hk e => by
  rcases hs.new k hk with h1 | h1
  · exact h x hx p hp k hk (h1 ▸ e)
  · have h2 := h1 _ e
    obtain ⟨cs, fr, h3⟩ := (hD x hx).ty p hp
    have := lt_of_block h3
    omega
theorem Sep.with {V : Nat → Value} {D : List Dr} {q : Dr} (h : Sep V D) (hD : Srt D) (hq : ∀ p, q.a = some p → ∀ k, k < 16 → (V k).ownBlock ≠ some p.block) : Sep V (withD D q) := fun x hx p hp k hk => by
  rcases withD_mem hD hx with rfl | hx
  · exact hq p hp k hk
  · exact h x hx p hp k hk
theorem Sep.find {V : Nat → Value} {D : List Dr} (h : Sep V D) (n : Int) : ∀ p, (findD D n).a = some p → ∀ k, k < 16 → (V k).ownBlock ≠ some p.block := fun p hp k hk => by
  rcases find_in (D := D) (p := n) with h1 | ⟨_, h1⟩
  · exact h _ h1 p hp k hk
  · rw [h1] at hp
    cases hp
theorem DrsAt.step {w w' : World} {B b : Nat} {q : Int} {f : Nat → Qu} {V V' : Nat → Value} {a : Option Addr} {D : List Dr} (h : DrsAt w a D) (hS : ShAt w B b q f V) (hs : ShStep w w' b V V') (hd : Sep V D) : DrsAt w' a D := by
  obtain ⟨bc, hbc⟩ := hS.blk
  have rowk : ∀ {k : Nat} {cs : Array Value} {fr : Nat × Nat}, w.heap[k]? = some (.cells cs 45 fr) → w'.heap[k]? = w.heap[k]? := fun {k cs fr} hk => hs.block k (lt_of_block hk) (fun e => by
    rw [e, hbc] at hk
    simp at hk) (fun p hp e => by
    obtain ⟨cs2, h2⟩ := own_blk (hS.own p hp) e
    rw [hk] at h2
    simp at h2)
  have intk : ∀ {x : Dr}, x ∈ D → ∀ {p : Addr}, x.a = some p → ∀ {cs : Array Value} {fr : Nat × Nat}, w.heap[p.block]? = some (.cells cs 3 fr) → w'.heap[p.block]? = w.heap[p.block]? := fun {x} hx {p} hp {cs fr} hk => hs.block _ (lt_of_block hk) (fun e => by
    rw [e, hbc] at hk
    simp at hk) (fun k hk2 e => hd x hx p hp k hk2 e)
  intro t x ht
  have hx := List.mem_of_getElem? ht
  obtain ⟨⟨g2, o2, h1, h2, h3⟩, h4, h5⟩ := h t x ht
  obtain ⟨cs2, fr2, h6⟩ := h5 _ h1
  have he := rowk h6
  refine ⟨⟨g2, o2, h1, Nat.lt_of_lt_of_le h2 hs.size, fun j v hv => (World.cell?_of_block (a := ⟨g2, o2 + t * 4 + j, none⟩) he).trans (h3 j v hv)⟩, ⟨fun i hi => ?_, h4.le, h4.ml, fun p hp => ?_⟩, fun p hp => ?_⟩
  · obtain ⟨g3, o3, e, hc⟩ := h4.ints i hi
    obtain ⟨cs3, fr3, h7⟩ := h4.ty _ e
    exact ⟨g3, o3, e, (World.cell?_of_block (a := ⟨g3, o3 + i, none⟩) (show w'.heap[g3]? = w.heap[g3]? from intk (p := ⟨g3, o3, none⟩) hx e h7)).trans hc⟩
  · obtain ⟨cs3, fr3, h7⟩ := h4.ty p hp
    exact ⟨cs3, fr3, (intk hx hp h7).trans h7⟩
  · obtain ⟨cs3, fr3, h7⟩ := h5 p hp
    exact ⟨cs3, fr3, (rowk h7).trans h7⟩
def weighE (p n : Int) : Int := if 1 ≤ p ∧ p ≤ 15 ∧ 0 ≤ n ∧ n ≤ 16 then 0 else 1
def weighF (f : Nat → Qu) (p n : Int) : Nat → Qu := if 1 ≤ p ∧ p ≤ 15 ∧ 0 ≤ n ∧ n ≤ 16 then qup f p.toNat (weighQ (f p.toNat) n) else f
theorem dW (Q p n : Int) (f : Nat → Qu) (V : Nat → Value) (a0 : Option Addr) (D : List Dr) (c : Nat) (w : World) (hA : DrsAt w a0 D) (hS : Sim f D) (hV : Sep V D) :
    Calls Try.prog 6 #[shV Q a0 D.length c, .int .i64 p, .int .i64 n] w fun e w' => ∃ D2 a2 c2, e = .returned (.tuple #[shV Q a2 (List.length (α := Dr) D2) c2, .int .i64 (weighE p n)]) ∧ DrsAt w' a2 D2 ∧ Sim (weighF f p n) D2 ∧ Sep V D2 ∧ Below w.heap.size w w' := by
  have hl := hS.len
  unfold weighE weighF
  by_cases h : 1 ≤ p ∧ p ≤ 15 ∧ 0 ≤ n ∧ n ≤ 16
  · rw [if_pos h, if_pos h]
    refine (dweigh_ok Q p n a0 D c w hA (by omega) h).mono ?_
    rintro e w' ⟨a, c', rfl, h1, h2⟩
    refine ⟨_, a, c', rfl, h1, ?_, hV.with hS.srt ?_, h2⟩
    · have := hS.weigh p.toNat n (by omega) (by omega)
      rwa [show ((p.toNat : Nat) : Int) = p by omega] at this
    · unfold weighD
      split
      · intro q hq; cases hq
      · exact hV.find p
  · rw [if_neg h, if_neg h]
    refine (dweigh_bad Q p n a0 D.length c w h).mono ?_
    rintro e w' ⟨rfl, h2⟩
    exact ⟨D, a0, c, rfl, hA.up h2, hS, hV, h2⟩
theorem cW (B b : Nat) (p n q : Int) (f : Nat → Qu) (V : Nat → Value) (w : World) (hS : ShAt w B b q f V) :
    Calls Try.prog 7 #[.pointer (some ⟨b, 0, none⟩), .int .i64 p, .int .i64 n] w fun e w' => e = .returned (.int .i64 (weighE p n)) ∧ ∃ V', ShAt w' B b q (weighF f p n) V' ∧ ShStep w w' b V V' := by
  unfold weighE weighF
  by_cases h : 1 ≤ p ∧ p ≤ 15 ∧ 0 ≤ n ∧ n ≤ 16
  · rw [if_pos h, if_pos h]
    have := weigh_ok B b p.toNat n q f V w (by omega) (by omega) hS
    rwa [show ((p.toNat : Nat) : Int) = p by omega] at this
  · rw [if_neg h, if_neg h]
    refine (weigh_bad b p n w h).mono ?_
    rintro e w' ⟨rfl, rfl⟩
    exact ⟨rfl, V, hS, ShStep.refl _ _ _⟩
theorem dA (Q p n : Int) (f : Nat → Qu) (V : Nat → Value) (a0 : Option Addr) (D : List Dr) (c : Nat) (w : World) (hA : DrsAt w a0 D) (hS : Sim f D) (hV : Sep V D) (hlt : ∀ k, k < 16 → ∀ z, (V k).ownBlock = some z → z < w.heap.size) :
    Calls Try.prog 8 #[shV Q a0 D.length c, .int .i64 p, .int .i64 n] w fun e w' => ∃ D2 a2 c2, e = .returned (.tuple #[shV Q a2 (List.length (α := Dr) D2) c2, .int .i64 (addE f p n)]) ∧ DrsAt w' a2 D2 ∧ Sim (addF f p n) D2 ∧ Sep V D2 ∧ Below w.heap.size w w' := by
  have hl := hS.len
  unfold addF addE
  by_cases h : 1 ≤ p ∧ p ≤ 15 ∧ 1 ≤ n ∧ n ≤ 65536
  · have hpn : ((p.toNat : Nat) : Int) = p := by omega
    have hag := hS.ag p.toNat (by omega) (by omega)
    rw [hpn] at hag
    rw [if_neg (fun h9 => h9 h)]
    by_cases h0 : (f p.toNat).w = 0
    · rw [if_pos h0, if_neg (by decide)]
      have h1 : (findD D p).w = 0 := by rw [hag] at h0; exact h0
      refine (dadd_no Q p n a0 D c w hA (by omega) h (.inl h1)).mono ?_
      rw [if_pos h1]
      rintro e w' ⟨rfl, h2⟩
      exact ⟨D, a0, c, rfl, hA.up h2, hS, hV, h2⟩
    · rw [if_neg h0]
      have h1 : (findD D p).w ≠ 0 := by rw [hag] at h0; exact h0
      by_cases h3 : 100 ≤ (f p.toNat).l.length
      · rw [if_pos h3, if_neg (by decide)]
        have h4 : 100 ≤ (findD D p).l.length := by rw [hag] at h3; exact h3
        refine (dadd_no Q p n a0 D c w hA (by omega) h (.inr h4)).mono ?_
        rw [if_neg h1]
        rintro e w' ⟨rfl, h2⟩
        exact ⟨D, a0, c, rfl, hA.up h2, hS, hV, h2⟩
      · rw [if_neg h3, if_pos rfl]
        have h4 : (findD D p).l.length < 100 := by rw [hag] at h3; exact Nat.lt_of_not_le h3
        refine (dadd_ok Q p n a0 D c w hA (by omega) h h1 h4).mono ?_
        rintro e w' ⟨a, c', xa, xk, rfl, h5, h6, h7⟩
        refine ⟨_, a, c', rfl, h5, ?_, hV.with hS.srt (fun q hq k hk e => ?_), h6⟩
        · have := hS.add p.toNat n (by omega) (by omega) (by omega) xa xk
          rwa [hpn] at this
        · have h8 := h7 q hq
          have h9 := hlt k hk _ e
          omega
  · rw [if_pos h, if_neg (by decide)]
    refine (dadd_bad Q p n a0 D.length c w h).mono ?_
    rintro e w' ⟨rfl, h2⟩
    exact ⟨D, a0, c, rfl, hA.up h2, hS, hV, h2⟩
theorem tS_sep {V : Nat → Value} {f : Nat → Qu} {D : List Dr} (hV : Sep V D) (hS : Sim f D) {Q : Int} (hq : 1 ≤ Q ∧ Q ≤ 65536) : ∀ i, i ≤ D.length → Sep V (tS D Q i)
  | 0, _ => hV
  | i + 1, hi => by
    have ih := tS_sep hV hS hq i (by omega)
    obtain ⟨x, hx⟩ : ∃ x, D[i]? = some x := ⟨_, List.getElem?_eq_getElem (by omega)⟩
    by_cases hl : x.l = []
    · rw [(tS_no (Q := Q) hx hl).1]; exact ih
    · rw [(tS_yes (Q := Q) hx hl).1]
      refine ih.with (tS_sim hS hq i (by omega)).srt (fun p hp k hk => ?_)
      unfold tqD at hp
      dsimp only at hp
      split at hp
      · exact hV x (List.mem_of_getElem? hx) p hp k hk
      · unfold shA at hp
        cases ha : x.a with
        | none => rw [ha] at hp; cases hp
        | some q =>
          rw [ha] at hp
          simp only [Option.map_some, Option.some.injEq] at hp
          subst hp
          exact hV x (List.mem_of_getElem? hx) q ha k hk
theorem dT (Q : Int) (f : Nat → Qu) (V : Nat → Value) (a0 : Option Addr) (D : List Dr) (c : Nat) (w : World) (hq : 1 ≤ Q ∧ Q ≤ 65536) (hA : DrsAt w a0 D) (hS : Sim f D) (hV : Sep V D) :
    Calls Try.prog 10 #[shV Q a0 D.length c] w fun e w' => ∃ D2 a2 c2 v, e = .returned (.agg #[.int .i64 Q, .slice a2 (List.length (α := Dr) D2) c2, v, .int .i64 (turnE f 16)]) ∧ DrsAt w' a2 D2 ∧ Sim (turnF f Q 16) D2 ∧ Sep V D2 ∧ OwnSn w' w.heap.size v (sentL f Q 16) ∧ Below w.heap.size w w' := by
  have hl := hS.len
  refine (dturn_any Q a0 D c w hA hq (by omega) hS.dok).mono ?_
  rintro e w' ⟨a, c', v, rfl, h1, h2, h3⟩
  refine ⟨_, a, c', v, by rw [hS.err], h1, hS.turn hq, tS_sep hV hS hq _ (Nat.le_refl _), ?_, h3⟩
  rw [← hS.sent Q]
  exact h2
end Go.Proofs.Ytlmmincpjflkdaa
