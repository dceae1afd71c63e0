/- Known of any rows; rows in another order. -/
import Derived.Test.YtfihpmhobjjaaaaPeR
import Derived.Deep.AppendLies
namespace Go.Proofs.Ytfihpmhobjjaaaa
open Go.RowKit
set_option linter.unusedVariables false
attribute [local go_sem] Oper.semAt_some

def nats (l : List Int) : List Nat := l.map Int.toNat
theorem nats_zs (r : List Nat) : nats (zs r) = r := by
  unfold nats zs
  rw [List.map_map]
  have : (Int.toNat ∘ fun (z : Nat) => (z : Int)) = id := by funext z; simp
  rw [this, List.map_id]
/-- may rows and numbers be peeled? -/
def kOk (n : Int) (Rs : List (List Int)) (Ks : List Int) : Bool := mayB n Rs && mayB n [Ks]
/-- what Known tells, and its error -/
def kNi (n : Int) (Rs : List (List Int)) (Ks : List Int) : List Nat := if kOk n Rs Ks = true then knN n.toNat (Rs.map nats) (nats Ks) else []
def kEr (n : Int) (Rs : List (List Int)) (Ks : List Int) : Int := if kOk n Rs Ks = true then 0 else 1
theorem map_nats_zs (R : List (List Nat)) : (R.map zs).map nats = R := by
  rw [List.map_map]
  have : (nats ∘ zs) = id := by funext r; exact nats_zs r
  rw [this, List.map_id]
theorem kNi_len {n : Int} {Rs : List (List Int)} {Ks : List Int} : (kNi n Rs Ks).length ≤ 160 := by
  unfold kNi
  split
  · rename_i h
    unfold kOk at h
    rw [Bool.and_eq_true] at h
    obtain ⟨k, R, K, rfl, rfl, rfl, hP⟩ := may_pl h.1 h.2
    have := knN_len k R K
    have := hP.n160
    simp only [Int.toNat_natCast]
    rw [map_nats_zs, nats_zs]
    omega
  · simp
theorem known_all (n : Int) (Rs : List (List Int)) (Ks : List Int) (a0 k0 : Option Addr) (c kc : Nat) (hn : -9223372036854775808 ≤ n ∧ n ≤ 9223372036854775807) (hk : Rs.length ≤ maxLen) (hk2 : ∀ r ∈ Rs, r.length ≤ maxLen) (hk3 : Ks.length ≤ maxLen) (w : World) (hI : RowsK w a0 Rs) (hK : Ints w k0 Ks) :
    Calls Try.prog 12 #[.int .i64 n, .slice a0 Rs.length c, .slice k0 Ks.length kc] w fun e w' => ∃ v, e = .returned (.tuple #[v, .int .i64 (kEr n Rs Ks)]) ∧ w'.ownsRow w.heap.size 3 1 v (kNi n Rs Ks).length (ic (zs (kNi n Rs Ks))) ∧ Below w.heap.size w w' := by
  unfold kNi kEr
  cases h : kOk n Rs Ks with
  | false =>
    refine (known_no n Rs Ks a0 k0 c kc hn hk hk2 hk3 w hI.rowsA hK h).mono ?_
    rintro e w' ⟨rfl, hb⟩
    exact ⟨_, rfl, World.ownsRow_nil _ _ _ _, hb⟩
  | true =>
    have h' := h
    unfold kOk at h'
    rw [Bool.and_eq_true] at h'
    obtain ⟨k, R, K, rfl, rfl, rfl, hP⟩ := may_pl h'.1 h'.2
    have := known_yes k R K hP a0 k0 c kc w hI.rowsC hK
    simp only [if_true, Int.toNat_natCast]
    rw [map_nats_zs, nats_zs, List.length_map, zs_length]
    exact this
theorem may_order {n : Int} {Rs Rs' : List (List Int)} (hl : Rs'.length = Rs.length) (hs : ∀ r, r ∈ Rs' ↔ r ∈ Rs) : mayB n Rs' = mayB n Rs := by
  unfold mayB
  rw [hl]
  congr 1
  rw [Bool.eq_iff_iff, List.all_eq_true, List.all_eq_true]
  exact ⟨fun h r hr => h r ((hs r).2 hr), fun h r hr => h r ((hs r).1 hr)⟩
theorem kOk_order {n : Int} {Rs Rs' : List (List Int)} {Ks : List Int} (hl : Rs'.length = Rs.length) (hs : ∀ r, r ∈ Rs' ↔ r ∈ Rs) : kOk n Rs' Ks = kOk n Rs Ks := by
  unfold kOk
  rw [may_order hl hs]
theorem kEr_order {n : Int} {Rs Rs' : List (List Int)} {Ks : List Int} (hl : Rs'.length = Rs.length) (hs : ∀ r, r ∈ Rs' ↔ r ∈ Rs) : kEr n Rs' Ks = kEr n Rs Ks := by
  unfold kEr
  rw [kOk_order hl hs]
theorem kNi_order {n : Int} {Rs Rs' : List (List Int)} {Ks : List Int} (hl : Rs'.length = Rs.length) (hs : ∀ r, r ∈ Rs' ↔ r ∈ Rs) : kNi n Rs' Ks = kNi n Rs Ks := by
  unfold kNi
  rw [kOk_order hl hs]
  split
  · rename_i h
    unfold kOk at h
    rw [Bool.and_eq_true] at h
    obtain ⟨k, R, K, rfl, rfl, rfl, hP⟩ := may_pl h.1 h.2
    simp only [Int.toNat_natCast]
    rw [map_nats_zs, nats_zs]
    refine known_order hP.lt hP.nodup (fun r => ?_)
    rw [List.mem_map]
    constructor
    · rintro ⟨x, hx, rfl⟩
      obtain ⟨y, hy, rfl⟩ := List.mem_map.1 ((hs x).1 hx)
      rw [nats_zs]
      exact hy
    · intro hr
      exact ⟨zs r, (hs _).2 (List.mem_map.2 ⟨r, hr, rfl⟩), nats_zs r⟩
  · rfl
def gtR (Rs : List (List Int)) (i : Nat) : List Int := Rs.getD i []
theorem gtR_get (Rs : List (List Int)) (i : Nat) (h : i < Rs.length) : gtR Rs i = Rs[i] := by simp [gtR, List.getD, h]
/-- some rows, by their places -/
def pickR (Rs : List (List Int)) (f : Nat → Nat) (k : Nat) : List (List Int) := (List.range k).map fun j => gtR Rs (f j)
theorem pickR_len (Rs : List (List Int)) (f : Nat → Nat) (k : Nat) : (pickR Rs f k).length = k := by simp [pickR]
theorem pick_members {Rs : List (List Int)} {f : Nat → Nat} (h1 : ∀ j, j < Rs.length → f j < Rs.length) (h2 : ∀ i, i < Rs.length → ∃ j, j < Rs.length ∧ f j = i) (r : List Int) : r ∈ pickR Rs f Rs.length ↔ r ∈ Rs := by
  unfold pickR
  rw [List.mem_map]
  constructor
  · rintro ⟨j, hj, rfl⟩
    rw [List.mem_range] at hj
    rw [gtR_get _ _ (h1 j hj)]
    exact List.getElem_mem _
  · intro hr
    obtain ⟨i, hi, rfl⟩ := List.getElem_of_mem hr
    obtain ⟨j, hj, e⟩ := h2 i hi
    exact ⟨j, List.mem_range.2 hj, by rw [e, gtR_get _ _ hi]⟩
theorem turn_onto {m d i : Nat} (hi : i < m) : ∃ j, j < m ∧ (j + d) % m = i := by
  refine ⟨(i + (m - d % m)) % m, Nat.mod_lt _ (by omega), ?_⟩
  rw [Nat.add_mod, Nat.mod_mod, ← Nat.add_mod]
  have hd := Nat.div_add_mod d m
  have hm := Nat.mod_lt d (show 0 < m by omega)
  have e : i + (m - d % m) + d = i + m * (d / m + 1) := by
    have : d = m * (d / m) + d % m := hd.symm
    rw [Nat.mul_add, Nat.mul_one]
    omega
  rw [e, Nat.add_mul_mod_self_left]
  exact Nat.mod_eq_of_lt hi
theorem turn_lt {m d j : Nat} (hj : j < m) : (j + d) % m < m := Nat.mod_lt _ (by omega)
theorem back_onto {m d i : Nat} (hi : i < m) : ∃ j, j < m ∧ m - 1 - (j + d) % m = i := by
  obtain ⟨j, h1, h2⟩ := turn_onto (d := d) (show m - 1 - i < m by omega)
  exact ⟨j, h1, by rw [h2]; omega⟩
/-- rows that were handed in, as values -/
structure RowV (w : World) (Rs : List (List Int)) (V : Nat → Value) : Prop where
  is : ∀ i, i < Rs.length → ∃ b c, V i = .slice b (gtR Rs i).length c ∧ Ints w b (gtR Rs i) ∧ (gtR Rs i).length ≤ c ∧ c ≤ maxLen
theorem RowV.below {w w' : World} {Rs : List (List Int)} {V : Nat → Value} (h : RowV w Rs V) (hb : Below w.heap.size w w') : RowV w' Rs V := ⟨fun i hi => by
  obtain ⟨b, c, h1, h2, h3⟩ := h.is i hi
  exact ⟨b, c, h1, h2.below hb, h3⟩⟩
theorem rowV_of {w : World} {a0 : Option Addr} {Rs : List (List Int)} (h : RowsK w a0 Rs) (h0 : 0 < Rs.length) : ∃ g o V, a0 = some ⟨g, o, none⟩ ∧ (∀ i, i < Rs.length → w.cell? ⟨g, o + i, none⟩ = some (V i)) ∧ RowV w Rs V := by
  obtain ⟨g, o, rfl, _⟩ := h 0 h0
  refine ⟨g, o, fun i => (w.cell? ⟨g, o + i, none⟩).getD undef, rfl, fun i hi => ?_, ⟨fun i hi => ?_⟩⟩
  · obtain ⟨g', o', e, b, c, h2, h3⟩ := h i hi
    simp only [Option.some.injEq, Addr.mk.injEq] at e
    obtain ⟨rfl, rfl, _⟩ := e
    show _ = some ((w.cell? ⟨g, o + i, none⟩).getD undef)
    rw [h2]
    rfl
  · obtain ⟨g', o', e, b, c, h2, h3⟩ := h i hi
    simp only [Option.some.injEq, Addr.mk.injEq] at e
    obtain ⟨rfl, rfl, _⟩ := e
    rw [h2, gtR_get _ _ hi]
    exact ⟨b, c, rfl, h3⟩
theorem rowsK_pick {w : World} {base k : Nat} {v : Value} {Rs : List (List Int)} {V : Nat → Value} {f : Nat → Nat} (hO : w.ownsRow base 23 1 v k ((List.range k).map fun j => V (f j))) (hV : RowV w Rs V) (hf : ∀ j, j < k → f j < Rs.length) : ∃ a0 c, v = .slice a0 k c ∧ RowsK w a0 (pickR Rs f k) := by
  obtain ⟨a0, c, rfl⟩ := own_shape2 hO
  refine ⟨a0, c, rfl, fun i hi => ?_⟩
  rw [pickR_len] at hi
  obtain ⟨g, c', e, _⟩ := hO.form (by omega)
  simp only [Value.slice.injEq, true_and] at e
  obtain ⟨rfl, rfl⟩ := e
  have hc := hO.cellAt i (by omega)
  obtain ⟨b, cc, h1, h2, h3⟩ := hV.is (f i) (hf i hi)
  refine ⟨g, 0, rfl, b, cc, ?_, ?_, ?_⟩
  · rw [Nat.zero_add, hc]
    simp [hi, pickR, h1]
  · simpa [pickR] using h2
  · simpa [pickR] using h3
end Go.Proofs.Ytfihpmhobjjaaaa
