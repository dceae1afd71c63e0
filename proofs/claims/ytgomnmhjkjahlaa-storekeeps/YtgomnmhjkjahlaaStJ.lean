/- store: rows of entries; DropPeer, All, Get. -/
import Derived.Test.YtgomnmhjkjahlaaStI
namespace Go.Proofs.Ytgomnmhjkjahlaa
open Go.RowKit
set_option linter.unusedVariables false
attribute [local go_sem] Oper.semAt_some

/-- entries as cells -/
def ec (rs : List Raw) : List Value := rs.flatMap fun r => (rawC r).toList
theorem ec_nil : ec [] = [] := rfl
theorem ec_append (a b : List Raw) : ec (a ++ b) = ec a ++ ec b := by simp [ec]
theorem ec_one (r : Raw) : ec [r] = (rawC r).toList := by simp [ec]
theorem ec_length (rs : List Raw) : (ec rs).length = rs.length * 7 := by
  induction rs with
  | nil => rfl
  | cons a l ih =>
    have : ec (a :: l) = (rawC a).toList ++ ec l := by simp [ec]
    rw [this, List.length_append, ih, List.length_cons]
    simp
    omega
theorem ec_get (rs : List Raw) (j : Nat) (hj : j < 7) : ∀ i (h : i < rs.length), (ec rs)[i * 7 + j]? = (rawC rs[i]).toList[j]? := by
  induction rs with
  | nil => intro i h; simp at h
  | cons a l ih =>
    intro i h
    have e : ec (a :: l) = (rawC a).toList ++ ec l := by simp [ec]
    rw [e]
    cases i with
    | zero =>
      rw [List.getElem?_append_left (by simp; omega)]
      simp
    | succ i =>
      have hl : (rawC a).toList.length = 7 := by simp
      rw [List.getElem?_append_right (by omega), hl, show (i + 1) * 7 + j - 7 = i * 7 + j by omega, ih i (by simpa using h)]
      simp
/-- an entry's seven cells -/
def EntAt (w : World) (g o : Nat) (r : Raw) : Prop := w.cell? ⟨g, o, none⟩ = some (.int .i64 r.id) ∧ w.cell? ⟨g, o + 1, none⟩ = some (.int .i64 r.peer) ∧ w.cell? ⟨g, o + 2, none⟩ = some (.int .i64 r.mode) ∧ w.cell? ⟨g, o + 3, none⟩ = some (.int .i64 r.seed) ∧ w.cell? ⟨g, o + 4, none⟩ = some (.string r.hv) ∧ w.cell? ⟨g, o + 5, none⟩ = some (.slice r.a0 r.idx.length r.cap) ∧ w.cell? ⟨g, o + 6, none⟩ = some (.string r.dt)
/-- entries in a row -/
def EntsA (w : World) (a0 : Option Addr) (rs : List Raw) : Prop := ∀ i (h : i < rs.length), ∃ g o, a0 = some ⟨g, o, none⟩ ∧ EntAt w g (o + i * 7) rs[i]
theorem EntAt.same {w w' : World} {g o : Nat} {r : Raw} (h : EntAt w g o r) (e : w'.heap[g]? = w.heap[g]?) : EntAt w' g o r := by
  obtain ⟨h0, h1, h2, h3, h4, h5, h6⟩ := h
  exact ⟨cell_same e h0, cell_same e h1, cell_same e h2, cell_same e h3, cell_same e h4, cell_same e h5, cell_same e h6⟩
theorem EntsA.below {w w' : World} {a0 : Option Addr} {rs : List Raw} (h : EntsA w a0 rs) (hb : Below w.heap.size w w') : EntsA w' a0 rs := fun i hi => by
  obtain ⟨g, o, e, h1⟩ := h i hi
  exact ⟨g, o, e, h1.same (hb.block g (cell_lt h1.1))⟩
theorem EntsA.own {w : World} {base n : Nat} {t : TypeId} {v : Value} {rs : List Raw} (hn : rs.length = n) (h : w.ownsRow base t 7 v n (ec rs)) : ∃ a0 c, v = .slice a0 n c ∧ EntsA w a0 rs := by
  have hh := h
  rcases h.2 with ⟨rfl, h0⟩ | ⟨g, cap, cur, rfl, _⟩
  · exact ⟨none, 0, by rw [h0], fun i hi => absurd hi (by omega)⟩
  · refine ⟨some ⟨g, 0, none⟩, cap, rfl, fun i hi => ⟨g, 0, rfl, ?_⟩⟩
    rw [Nat.zero_add]
    refine ⟨?_, ?_, ?_, ?_, ?_, ?_, ?_⟩
    · rw [hh.cellAt (i * 7) (by omega)]; exact ec_get rs 0 (by omega) i hi
    · rw [hh.cellAt (i * 7 + 1) (by omega), ec_get rs 1 (by omega) i hi]; rfl
    · rw [hh.cellAt (i * 7 + 2) (by omega), ec_get rs 2 (by omega) i hi]; rfl
    · rw [hh.cellAt (i * 7 + 3) (by omega), ec_get rs 3 (by omega) i hi]; rfl
    · rw [hh.cellAt (i * 7 + 4) (by omega), ec_get rs 4 (by omega) i hi]; rfl
    · rw [hh.cellAt (i * 7 + 5) (by omega), ec_get rs 5 (by omega) i hi]; rfl
    · rw [hh.cellAt (i * 7 + 6) (by omega), ec_get rs 6 (by omega) i hi]; rfl
/-- what an entry says, wherever its numbers lie -/
def Raw.core (r : Raw) : Raw := { r with a0 := none, cap := 0 }
theorem core_at (r : Raw) (a : Option Addr) (c : Nat) : (r.at_ a c).core = r.core := rfl
theorem Try.infoEn : (Try.prog.info? 34).map (fun i => (i.zero, i.size, i.bytes)) = some (some (.agg zC), 7, 88) := by kernel_rfl
theorem Try.undEn : Try.prog.underlying 55 = some (.slice 34) := by kernel_rfl
theorem filter_true (rs : List Raw) : (rs.filter fun _ => true) = rs := by simp
/-- who is left when the first k of some numbers were dropped -/
theorem drop_step (rs : List Raw) (ids : List Int) (k : Nat) (hk : k < ids.length) : ((rs.filter fun r => decide (r.id ∉ ids.take k)).filter fun r => decide (r.id ≠ ids[k])) = rs.filter fun r => decide (r.id ∉ ids.take (k + 1)) := by
  rw [List.filter_filter]
  apply List.filter_congr
  intro r _
  have hm : r.id ∈ ids.take (k + 1) ↔ r.id ∈ ids.take k ∨ r.id = ids[k] := by
    rw [List.take_succ_eq_append_getElem hk, List.mem_append, List.mem_singleton]
  by_cases h1 : r.id ∈ ids.take k
  · have h2 : r.id ∈ ids.take (k + 1) := hm.2 (.inl h1)
    simp [h1, h2]
  · by_cases h3 : r.id = ids[k]
    · have h2 : r.id ∈ ids.take (k + 1) := hm.2 (.inr h3)
      simp [h3]
      rw [← h3]
      exact h2
    · have h2 : r.id ∉ ids.take (k + 1) := fun h => (hm.1 h).elim h1 h3
      simp [h1, h2, h3]
theorem drop_all (rs : List Raw) (peer : Int) (hup : rs.Pairwise fun a b => a.id < b.id) : (rs.filter fun r => decide (r.id ∉ (rs.filter fun r => r.peer == peer).map Raw.id)) = rs.filter fun r => !(r.peer == peer) := by
  apply List.filter_congr
  intro r hr
  rw [Bool.eq_iff_iff]
  simp only [decide_eq_true_eq, List.mem_map, List.mem_filter, not_exists, not_and, and_imp, Bool.not_eq_true', beq_eq_false_iff_ne, beq_iff_eq]
  constructor
  · intro h e
    exact h r hr e rfl
  · intro h y hy hp e
    have hne : rs.Pairwise fun a b => a.id ≠ b.id := hup.imp (fun h => by omega)
    obtain ⟨i, hi, rfl⟩ := List.getElem_of_mem hr
    obtain ⟨j, hj, rfl⟩ := List.getElem_of_mem hy
    rw [List.pairwise_iff_getElem] at hne
    rcases Nat.lt_trichotomy i j with h1 | h1 | h1
    · exact hne i j hi hj h1 e.symm
    · subst h1; exact h hp
    · exact hne j i hj hi h1 e
set_option maxRecDepth 100000 in
set_option maxHeartbeats 2000000 in
theorem dropPeer_any (p b : Nat) (room last : Int) (rs : List Raw) (peer : Int) (w : World) (hS : StAt w p b room last rs) :
    Calls Try.prog 18 #[.pointer (some ⟨p, 0, none⟩), .int .i64 peer] w fun e w' => (∃ a0 c, e = .returned (.slice a0 (rs.filter fun r => r.peer == peer).length c) ∧ Ints w' a0 ((rs.filter fun r => r.peer == peer).map Raw.id) ∧ (∀ a, a0 = some a → w.heap.size ≤ a.block)) ∧ StAt w' p b room last (rs.filter fun r => !(r.peer == peer)) ∧ K2 p b w w' := by
  have hof := hide (of_any p b room last rs peer w hS)
  have hda := hide (drop_all rs peer hS.up)
  have hidb : Hid (∀ x ∈ (rs.filter fun r => r.peer == peer).map Raw.id, (Lit.int .i64 x).wf = true) := fun x hx => by
    obtain ⟨r, hr, rfl⟩ := List.mem_map.1 hx
    have := hS.ids r (List.mem_filter.1 hr).1
    have := hS.last1
    exact WalkArith.wf_i64 (by omega)
  have hids : Hid (((rs.filter fun r => r.peer == peer).map Raw.id).length = (rs.filter fun r => r.peer == peer).length) := List.length_map _
  have hfl : (rs.filter fun r => r.peer == peer).length ≤ 400 := by
    have := List.length_filter_le (fun r : Raw => r.peer == peer) rs
    have := hS.len
    have := hS.room2
    omega
  have HS := hide hS
  have hplt := hS.plt
  clear hS
  generalize (rs.filter fun r => r.peer == peer).length = fl at *
  generalize (rs.filter fun r => r.peer == peer).map Raw.id = ids at *
  generalize (rs.filter fun r => !(r.peer == peer)) = rest at *
  go_enter Try.func18, Try.ntmps18
  go_wp2_with fail
  refine (unhide hof).mono ?_
  rintro e w1 ⟨⟨a0, c, rfl, hI, hge⟩, hb1⟩
  have HS1 := hide ((unhide HS).kept hb1)
  have HK1 := hide (K2.of_below (p := p) (b := b) hb1)
  have HI := hide hI
  have HGE := hide hge
  clear hb1 hI hge hof
  go_wp2_with fail
  go_loopw [13] (fun v wr => ∃ k : Nat, k ≤ fl ∧ v = .int .i64 k ∧ StAt wr p b room last (rs.filter fun r => decide (r.id ∉ ids.take k)) ∧ K2 p b w wr ∧ Ints wr a0 ids) (fun v _ => fl - (intOf v).toNat)
  case atStart => exact ⟨0, Nat.zero_le _, rfl, by rw [show (rs.filter fun r => decide (r.id ∉ ids.take 0)) = rs from List.filter_eq_self.2 (by simp)]; exact unhide HS1, unhide HK1, unhide HI⟩
  case round =>
    clear HS1 HK1 HI
    obtain ⟨k, hk, rfl, hS, hK, hI⟩ := hrel
    by_cases hlt : k < fl
    · have hlt' : k < ids.length := by rw [unhide hids]; exact hlt
      obtain ⟨g, o, rfl, c0⟩ := hI k hlt'
      have hwf := unhide hidb _ (List.getElem_mem hlt')
      have HST := hide (drop_step rs ids k hlt')
      obtain ⟨p0, p1, p2, fp⟩ := cells3 hS.blk
      obtain ⟨D, hM, hD⟩ := hS.map
      generalize ids[k] = y at *
      have q1 : (k : Int) < fl := by omega
      have HS := hide hS
      have HK := hide hK
      have HI := hide hI
      have HM := hide hM
      have HD := hide hD
      have HW := hide hwf
      clear hS hK hI hM hD hwf hlt'
      go_wp2_with (at_delete; refine wpList_delete_own _ rfl _ _ 67 3 rfl 34 keyed Try.underlying67 stR b last.toNat D rfl (unhide HM) _ (kI y) rfl (keyOf_k (unhide HW)) ?_)
      intro w2 hM2 ht2
      have hS2 := (unhide HS).dropped y (unhide HD) hM2 ht2
      rw [unhide HST] at hS2
      have HS2 := hide hS2
      have HK2 := hide ((unhide HK).trans (K2.of_grown ht2.grown))
      have HI2 := hide ((unhide HI).k2 (K2.of_grown (p := p) ht2.grown) (fun a ha => by have := unhide HGE a ha; omega) (unhide HS).isMap)
      clear hM2 ht2 hS2 p0 p1 p2 fp c0
      go_wp2
      go_roundw
      case rel => exact ⟨k + 1, by omega, by go_num, unhide HS2, unhide HK2, unhide HI2⟩
      case measure => simp [intOf]; omega
    · have hke : k = fl := by omega
      subst hke
      have q1 : ¬ (k : Int) < k := by omega
      rw [List.take_of_length_le (by rw [unhide hids]; exact Nat.le_refl _), unhide hda] at hS
      have HS := hide hS
      have HK := hide hK
      have HI := hide hI
      clear hS hK hI
      go_wp2
      go_ret
      exact ⟨⟨a0, ⟨c, rfl⟩, unhide HI, unhide HGE⟩, unhide HS, unhide HK⟩
end Go.Proofs.Ytgomnmhjkjahlaa
