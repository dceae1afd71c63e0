/- meter: what a turn sends, and the error: mathematics; the law's comparison. -/
import Derived.Test.YtlmmincpjflkdaaMsI
namespace Go.Proofs.Ytlmmincpjflkdaa
open Go.RowKit
set_option linter.unusedVariables false
attribute [local go_sem] Oper.semAt_some

def sentD (Q : Int) (x : Dr) : List (Int × Int) := (x.l.take (tn (crD x Q) x.l)).map fun s => (x.p, s)
theorem tN_eq (D : List Dr) (Q : Int) : ∀ i, i ≤ D.length → tN D Q i = (D.take i).flatMap (sentD Q)
  | 0, _ => by simp [tN]
  | i + 1, hi => by
    have ih := tN_eq D Q i (by omega)
    obtain ⟨x, hx⟩ : ∃ x, D[i]? = some x := ⟨_, List.getElem?_eq_getElem (by omega)⟩
    have hto : D.take (i + 1) = D.take i ++ [x] := by
      obtain ⟨h1, rfl⟩ := List.getElem?_eq_some_iff.1 hx
      exact List.take_succ_eq_append_getElem h1
    rw [hto, List.flatMap_append, ← ih]
    by_cases hl : x.l = []
    · rw [(tS_no (Q := Q) hx hl).2.1]
      simp [sentD, hl]
    · rw [(tS_yes (Q := Q) hx hl).2.1]
      simp [sentD]
/-- rising queues, gone through by all numbers -/
theorem flat_range {β : Type} (g : Dr → List β) (h : Nat → List β) : ∀ (k m : Nat) (D : List Dr), Srt D → (∀ x ∈ D, (m : Int) ≤ x.p ∧ x.p < (m : Int) + k) → (∀ x ∈ D, h x.p.toNat = g x) → (∀ p : Nat, m ≤ p → p < m + k → (¬ ∃ x ∈ D, x.p = (p : Int)) → h p = []) →
    (List.range' m k).flatMap h = D.flatMap g
  | 0, m, D, _, hr, _, _ => by
    cases D with
    | nil => rfl
    | cons x D => have := hr x List.mem_cons_self; omega
  | k + 1, m, D, hs, hr, hg, hn => by
    rw [List.range'_succ, List.flatMap_cons]
    cases D with
    | nil =>
      rw [hn m (Nat.le_refl _) (by omega) (by simp), flat_range g h k (m + 1) [] hs (fun x hx => by cases hx) (fun x hx => by cases hx) (fun p h1 h2 h3 => hn p (by omega) (by omega) h3)]
      rfl
    | cons x D =>
      have h1 : ∀ {y : Dr}, y ∈ D → x.p < y.p := fun {y} hy => List.rel_of_pairwise_cons hs hy
      have hx := hr x List.mem_cons_self
      by_cases hm : x.p = (m : Int)
      · have hgx := hg x List.mem_cons_self
        rw [show x.p.toNat = m by omega] at hgx
        rw [hgx, List.flatMap_cons, flat_range g h k (m + 1) D hs.of_cons (fun y hy => by have := h1 hy; have := hr y (List.mem_cons_of_mem _ hy); omega) (fun y hy => hg y (List.mem_cons_of_mem _ hy)) (fun p h3 h4 h5 => hn p (by omega) (by omega) (by
          rintro ⟨y, hy, e⟩
          rcases List.mem_cons.1 hy with rfl | hy
          · omega
          · exact h5 ⟨y, hy, e⟩))]
      · rw [hn m (Nat.le_refl _) (by omega) (by
          rintro ⟨y, hy, e⟩
          rcases List.mem_cons.1 hy with rfl | hy
          · exact hm e
          · have := h1 hy
            omega), List.nil_append]
        exact flat_range g h k (m + 1) (x :: D) hs (fun y hy => by
          have := hr y hy
          rcases List.mem_cons.1 hy with rfl | hy2
          · omega
          · have := h1 hy2; omega) hg (fun p h3 h4 h5 => hn p (by omega) (by omega) h5)
theorem Sim.sent {f : Nat → Qu} {D : List Dr} (h : Sim f D) (Q : Int) : tN D Q D.length = sentL f Q 16 := by
  rw [tN_eq D Q _ (Nat.le_refl _), List.take_length]
  unfold sentL
  rw [List.range_eq_range']
  refine (flat_range (sentD Q) (sentP f Q) 16 0 D h.srt (fun x hx => by have := h.rng x hx; omega) (fun x hx => ?_) (fun p h1 h2 h3 => ?_)).symm
  · have hr := h.rng x hx
    unfold sentP
    rw [if_pos (by omega), h.mem hx]
    unfold sentD
    rw [show ((x.p.toNat : Nat) : Int) = x.p by omega]
    rfl
  · unfold sentP
    by_cases hp : 1 ≤ p
    · rw [if_pos hp, h.absent ⟨hp, by omega⟩ h3]
      rfl
    · rw [if_neg hp]
theorem tE_eq (D : List Dr) : ∀ i, i ≤ D.length → tE D i = if (D.take i).any (fun x => decide (x.l ≠ [])) = true then 0 else 4
  | 0, _ => by simp [tE]
  | i + 1, hi => by
    have ih := tE_eq D i (by omega)
    obtain ⟨x, hx⟩ : ∃ x, D[i]? = some x := ⟨_, List.getElem?_eq_getElem (by omega)⟩
    have hto : D.take (i + 1) = D.take i ++ [x] := by
      obtain ⟨h1, rfl⟩ := List.getElem?_eq_some_iff.1 hx
      exact List.take_succ_eq_append_getElem h1
    rw [hto, List.any_append]
    by_cases hl : x.l = []
    · rw [(tS_no (Q := 0) hx hl).2.2, ih]
      simp [hl]
    · rw [(tS_yes (Q := 0) hx hl).2.2]
      simp [hl]
theorem Sim.err {f : Nat → Qu} {D : List Dr} (h : Sim f D) : tE D D.length = turnE f 16 := by
  rw [tE_eq D _ (Nat.le_refl _), List.take_length]
  unfold turnE
  have e : D.any (fun x => decide (x.l ≠ [])) = someW f 16 := by
    rw [Bool.eq_iff_iff, List.any_eq_true]
    unfold someW
    rw [List.any_eq_true]
    constructor
    · rintro ⟨x, hx, hl⟩
      have hr := h.rng x hx
      refine ⟨x.p.toNat, List.mem_range.2 (by omega), ?_⟩
      rw [h.mem hx]
      have hl : x.l ≠ [] := by simpa using hl
      exact decide_eq_true ⟨by omega, hl⟩
    · rintro ⟨p, hp, hl⟩
      have hp := List.mem_range.1 hp
      obtain ⟨h1, h2⟩ := of_decide_eq_true hl
      by_cases hex : ∃ x ∈ D, x.p = (p : Int)
      · obtain ⟨x, hx, e⟩ := hex
        refine ⟨x, hx, ?_⟩
        have := h.mem hx
        rw [show x.p.toNat = p by omega] at this
        rw [this] at h2
        exact decide_eq_true h2
      · rw [h.absent ⟨h1, by omega⟩ hex] at h2
        exact absurd rfl h2
  rw [e]
theorem Sim.waits {f : Nat → Qu} {D : List Dr} (h : Sim f D) (p : Nat) : waitsN f p = ((findD D p).l.length : Int) ∧ creditN f p = (findD D p).c := by
  unfold waitsN creditN
  by_cases hp : 1 ≤ (p : Int) ∧ (p : Int) ≤ 15
  · rw [if_pos hp, if_pos hp, Int.toNat_natCast, h.ag p (by omega) (by omega)]
    exact ⟨rfl, rfl⟩
  · rw [if_neg hp, if_neg hp]
    have : findD D p = ⟨p, 0, 0, [], none, 0⟩ := by
      rcases find_in (D := D) (p := (p : Int)) with h1 | ⟨_, h1⟩
      · have h2 := h.rng _ h1
        rw [find_p] at h2
        exact absurd h2 hp
      · exact h1
    rw [this]
    exact ⟨rfl, rfl⟩
/-- pairs as they are read -/
def PrsI (w : World) (a0 : Option Addr) (l : List (Int × Int)) : Prop := ∀ (i : Nat) (p : Int × Int), l[i]? = some p → ∃ g o, a0 = some ⟨g, o, none⟩ ∧ w.cell? ⟨g, o + i * 2, none⟩ = some (.int .i64 p.1) ∧ w.cell? ⟨g, o + i * 2 + 1, none⟩ = some (.int .i64 p.2)
theorem PrsI.below {w w' : World} {a0 : Option Addr} {l : List (Int × Int)} (h : PrsI w a0 l) (hb : Below w.heap.size w w') : PrsI w' a0 l := fun i p hp => by
  obtain ⟨g, o, h1, h2, h3⟩ := h i p hp
  exact ⟨g, o, h1, cell_below h2 hb, cell_below h3 hb⟩
theorem own_prs {w : World} {T : TypeId} {B : Nat} {v : Value} {l : List (Int × Int)} (h : w.ownsRow B T 2 v l.length (stC l)) : ∃ a c, v = .slice a l.length c ∧ PrsI w a l := by
  rcases h.2 with ⟨h1, h2⟩ | ⟨g, cap, cur, h1, h2, h3, _⟩
  · refine ⟨none, 0, by rw [h1, h2], fun i p hp => ?_⟩
    rw [List.length_eq_zero_iff.1 h2] at hp
    cases hp
  · rw [h1] at h
    refine ⟨_, cap, h1, fun i p hp => ⟨g, 0, rfl, ?_⟩⟩
    obtain ⟨hi, rfl⟩ := List.getElem?_eq_some_iff.1 hp
    have := stC_get l i hi
    rw [Nat.zero_add]
    exact ⟨(World.ownsRow.cellAt h (i * 2) (by omega)).trans this.1, (World.ownsRow.cellAt h (i * 2 + 1) (by omega)).trans this.2⟩
set_option maxRecDepth 100000 in
set_option maxHeartbeats 4000000 in
theorem msame_any (a b : Option Addr) (l : List (Int × Int)) (c d : Nat) (w : World) (hA : PrsI w a l) (hB : PrsI w b l) (hl : l.length ≤ 100000) :
    Calls Try.prog 12 #[.slice a l.length c, .slice b l.length d] w fun e w' => e = .returned (.bool true) ∧ Below w.heap.size w w' := by
  have HA := hide hA
  have HB := hide hB
  obtain ⟨n, hn⟩ : ∃ n, n = l.length := ⟨_, rfl⟩
  rw [← hn] at hl ⊢
  have HN := hide hn
  clear hA hB hn
  go_enter Try.func12, Try.ntmps12
  go_wp2_with fail
  go_loopw [5] (fun iv wr => ∃ i : Nat, i ≤ n ∧ iv = .int .i64 i ∧ Below w.heap.size w wr) (fun iv _ => n - (intOf iv).toNat)
  case atStart => exact ⟨0, by omega, rfl, Below.refl _ _⟩
  case round =>
    obtain ⟨i, hi, rfl, hBe⟩ := hrel
    have HBE := hide hBe
    clear hBe
    by_cases hlt : i < n
    · have q1 : (i : Int) < n := by omega
      obtain ⟨p, hp⟩ : ∃ p, l[i]? = some p := ⟨_, List.getElem?_eq_getElem (by have := unhide HN; omega)⟩
      obtain ⟨g, o, rfl, c1, c2⟩ := ((unhide HA).below (unhide HBE)) i p hp
      obtain ⟨g', o', rfl, d1, d2⟩ := ((unhide HB).below (unhide HBE)) i p hp
      obtain ⟨px, py⟩ := p
      dsimp only at c1 c2 d1 d2
      clear hp
      go_wp2_with fail
      refine wp_region_grB (by kernel_rfl) (by kernel_rfl) ?_
      have hneX := gb_ne wr
      have f1 : ∀ y : Gb wr, y.w.cell? ⟨g, o + i * 2, none⟩ = some (.int .i64 px) := fun y => gb_cell c1 y
      have f2 : ∀ y : Gb wr, y.w.cell? ⟨g, o + i * 2 + 1, none⟩ = some (.int .i64 py) := fun y => gb_cell c2 y
      have f3 : ∀ y : Gb wr, y.w.cell? ⟨g', o' + i * 2, none⟩ = some (.int .i64 px) := fun y => gb_cell d1 y
      have f4 : ∀ y : Gb wr, y.w.cell? ⟨g', o' + i * 2 + 1, none⟩ = some (.int .i64 py) := fun y => gb_cell d2 y
      repeat (go_big_quiet_step (fail))
      refine wpQuiet_nil ?_
      rintro w4 ⟨⟨_, b4⟩, rfl⟩
      have HB4 := hide ((unhide HBE).trans (b4.mono (unhide HBE).size))
      clear b4 hneX f1 f2 f3 f4 c1 c2 d1 d2
      go_wp2
      go_roundw
      case rel => exact ⟨i + 1, by omega, by go_num, unhide HB4⟩
      case measure => simp [intOf]; omega
    · have q1 : ¬ (i : Int) < n := by omega
      go_wp2
      go_ret
      exact ⟨rfl, unhide HBE⟩
end Go.Proofs.Ytlmmincpjflkdaa
