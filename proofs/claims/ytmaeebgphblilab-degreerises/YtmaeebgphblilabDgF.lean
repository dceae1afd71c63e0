/- Contracts of the document's Same, of degree's Degree and Aux and the document's; the law's awake. -/
import Derived.Test.YtmaeebgphblilabDgE
import Derived.BigQuiet
namespace Go.Proofs.Ytmaeebgphblilab
open Go.RowKit
set_option linter.unusedVariables false

theorem ZAt.get {w : World} {a0 : Option Addr} {l : List Int} (h : ZAt w a0 l) (i : Nat) (hi : i < l.length) : ∃ g o, a0 = some ⟨g, o, none⟩ ∧ w.cell? ⟨g, o + i, none⟩ = some (.int .i64 l[i]) := h i _ (List.getElem?_eq_getElem hi)
theorem below_drewN' {B : Nat} {w w' : World} (h : Below B w w') : ∀ q, Below B w (w'.drewN q)
  | 0 => h
  | q + 1 => ⟨h.os, h.tape, h.output, h.size, h.block⟩

set_option maxRecDepth 100000 in
set_option maxHeartbeats 1000000 in
theorem same_any (w : World) (a0 b0 : Option Addr) (l : List Int) (k c d : Nat) (hl : l.length = k) (hk : k ≤ 4096) (hA : ZAt w a0 l) (hB : ZAt w b0 l) :
    Calls Try.prog 15 #[.slice a0 k c, .slice b0 k d] w fun e w' => e = .returned (.bool true) ∧ Below w.heap.size w w' := by
  have HA := hide hA
  have HB := hide hB
  have HL := hide hl
  clear hA hB hl
  go_enter Try.func15, Try.ntmps15
  go_wp2_with fail
  go_loopw [5] (fun v wr => ∃ i q : Nat, i ≤ k ∧ v = .int .i64 i ∧ w.drewN q = wr) (fun v _ => k - (intOf v).toNat)
  case atStart => exact ⟨0, 0, Nat.zero_le _, rfl, rfl⟩
  case round =>
    obtain ⟨i, q, hi, rfl, rfl⟩ := hrel
    by_cases hlt : i < k
    · have hil : i < l.length := by rw [unhide HL]; exact hlt
      obtain ⟨g, o, rfl, c1⟩ := (unhide HA).get i hil
      obtain ⟨g', o', rfl, c2⟩ := (unhide HB).get i hil
      have q1 : (i : Int) < k := by omega
      generalize l[i] = z at *
      go_wp2
      go_quiet (fail)
      go_wp2
      go_roundw
      case rel => exact ⟨i + 1, q + nq, by omega, by go_num, rfl⟩
      case measure => simp [intOf]; omega
    · have q1 : ¬ (i : Int) < k := by omega
      go_wp2
      go_ret
      exact ⟨rfl, below_drewN' (Below.refl _ _) q⟩

/-- the degree of a word in a table -/
def degA (l : List Int) (x : Int) : Nat := min (l.findIdx (fun z => decide (x < z)) + 1) l.length
theorem deg_hit {l : List Int} {x : Int} {i : Nat} (hi : i < l.length) (h : x < l[i]) (hall : ∀ j (hj : j < l.length), j < i → l[j] ≤ x) : degA l x = i + 1 := by
  have : l.findIdx (fun z => decide (x < z)) = i := by
    rw [List.findIdx_eq hi]
    exact ⟨by simpa using h, fun j hj => by simpa using hall j (by omega) hj⟩
  unfold degA
  rw [this]
  omega
theorem deg_none {l : List Int} {x : Int} (hall : ∀ j (hj : j < l.length), l[j] ≤ x) : degA l x = l.length := by
  have : l.findIdx (fun z => decide (x < z)) = l.length := by
    rw [List.findIdx_eq_length]
    intro z hz
    obtain ⟨j, hj, rfl⟩ := List.getElem_of_mem hz
    simpa using hall j hj
  unfold degA
  rw [this]
  omega

set_option maxRecDepth 100000 in
set_option maxHeartbeats 1000000 in
theorem degree_any (w : World) (a0 : Option Addr) (l : List Int) (k c : Nat) (x : Int) (hl : l.length = k) (hk : k ≤ 1000000) (hA : ZAt w a0 l) (hx0 : 0 ≤ x) (hx1 : x ≤ 4294967295) :
    Calls Try.prog 19 #[.slice a0 k c, .int .u32 x] w fun e w' => e = .returned (.int .i64 (degA l x : Nat)) ∧ w = w' := by
  have HA := hide hA
  have HL := hide hl
  have hhit := hide (fun (i : Nat) (hi : i < l.length) h h' => deg_hit (l := l) (x := x) hi h h')
  have hnon := hide (fun h => deg_none (l := l) (x := x) h)
  generalize degA l x = R at *
  clear hA hl
  have hw1 : IntKind.i64.wrap x = x := IntWalk.i64_in x ⟨by omega, by omega⟩
  go_enter Try.func19, Try.ntmps19
  go_wp2_with fail
  go_loopw [9] (fun v wr => w = wr ∧ ∃ i : Nat, i ≤ k ∧ v = .int .i64 i ∧ ∀ j (hj : j < l.length), j < i → l[j] ≤ x) (fun v _ => k - (intOf v).toNat)
  case atStart => exact ⟨rfl, 0, Nat.zero_le _, rfl, fun j _ h => absurd h (by omega)⟩
  case round =>
    obtain ⟨rfl, i, hi, rfl, hall⟩ := hrel
    have HALL := hide hall
    clear hall
    by_cases hlt : i < k
    · have hil : i < l.length := by rw [unhide HL]; exact hlt
      obtain ⟨g, o, rfl, c1⟩ := (unhide HA).get i hil
      have q1 : (i : Int) < k := by omega
      by_cases hz : x < l[i]
      · have hR := unhide hhit i hil hz (unhide HALL)
        have hRI : (R : Int) = (i : Int) + 1 := by omega
        generalize l[i] = z at *
        have HR := hide hRI
        clear hR hRI
        go_wp2
        go_ret
        exact ⟨by rw [unhide HR]; rfl, rfl⟩
      · have hall' : Hid (∀ j (hj : j < l.length), j < i + 1 → l[j] ≤ x) := by
          intro j hj hji
          by_cases e : j = i
          · subst e; omega
          · exact unhide HALL j hj (by omega)
        generalize l[i] = z at *
        go_wp2
        go_roundw
        case rel => exact ⟨trivial, i + 1, by omega, by go_num, unhide hall'⟩
        case measure => simp [intOf]; omega
    · have q1 : ¬ (i : Int) < k := by omega
      have hR : R = k := by
        rw [unhide hnon (fun j hj => unhide HALL j hj (by have := unhide HL; omega))]
        exact unhide HL
      have HR := hide hR
      clear hR
      go_wp2
      go_ret
      exact ⟨by rw [unhide HR]; rfl, rfl⟩

set_option maxRecDepth 100000 in
set_option maxHeartbeats 1000000 in
theorem rdegree_any (w : World) (a0 : Option Addr) (l : List Int) (k c : Nat) (x : Int) (hl : l.length = k) (hk : k ≤ 1000000) (hA : ZAt w a0 l) (hx0 : 0 ≤ x) (hx1 : x ≤ 4294967295) :
    Calls Try.prog 20 #[.slice a0 k c, .int .i64 x] w fun e w' => e = .returned (.int .i64 (degA l x : Nat)) ∧ w = w' := by
  have HA := hide hA
  have HL := hide hl
  have hhit := hide (fun (i : Nat) (hi : i < l.length) h h' => deg_hit (l := l) (x := x) hi h h')
  have hnon := hide (fun h => deg_none (l := l) (x := x) h)
  generalize degA l x = R at *
  clear hA hl
  go_enter Try.func20, Try.ntmps20
  go_wp2_with fail
  go_loopw [5] (fun v wr => w = wr ∧ ∃ i : Nat, i ≤ k ∧ v = .int .i64 i ∧ ∀ j (hj : j < l.length), j < i → l[j] ≤ x) (fun v _ => k - (intOf v).toNat)
  case atStart => exact ⟨rfl, 0, Nat.zero_le _, rfl, fun j _ h => absurd h (by omega)⟩
  case round =>
    obtain ⟨rfl, i, hi, rfl, hall⟩ := hrel
    have HALL := hide hall
    clear hall
    by_cases hlt : i < k
    · have hil : i < l.length := by rw [unhide HL]; exact hlt
      obtain ⟨g, o, rfl, c1⟩ := (unhide HA).get i hil
      have q1 : (i : Int) < k := by omega
      by_cases hz : x < l[i]
      · have hR := unhide hhit i hil hz (unhide HALL)
        have hRI : (R : Int) = (i : Int) + 1 := by omega
        generalize l[i] = z at *
        have hz' : ¬ z ≤ x := by omega
        have hz2 : decide (z ≤ x) = false := decide_eq_false hz'
        have q2 : ¬ (i : Int) = k := by omega
        have HR := hide hRI
        clear hR hRI
        go_wp2
        go_ret
        exact ⟨by rw [unhide HR]; rfl, rfl⟩
      · have hall' : Hid (∀ j (hj : j < l.length), j < i + 1 → l[j] ≤ x) := by
          intro j hj hji
          by_cases e : j = i
          · subst e; omega
          · exact unhide HALL j hj (by omega)
        generalize l[i] = z at *
        have hz' : z ≤ x := by omega
        go_wp2
        go_roundw
        case rel => exact ⟨trivial, i + 1, by omega, by go_num, unhide hall'⟩
        case measure => simp [intOf]; omega
    · have hik : i = k := by omega
      subst hik
      have q1 : decide ((i : Int) < i) = false := decide_eq_false (by omega)
      have hR : R = i := by
        rw [unhide hnon (fun j hj => unhide HALL j hj (by have := unhide HL; omega))]
        exact unhide HL
      have HR := hide hR
      clear hR
      go_wp2
      go_ret
      exact ⟨by rw [unhide HR]; rfl, rfl⟩

end Go.Proofs.Ytmaeebgphblilab
