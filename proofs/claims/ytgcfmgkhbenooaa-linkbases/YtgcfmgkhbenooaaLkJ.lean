/- Contract of link's Unbase32. -/
import Derived.Test.YtgcfmgkhbenooaaLkI
namespace Go.Proofs.Ytgcfmgkhbenooaa
open Go.RowKit
set_option linter.unusedVariables false

def lgI (c : Nat) : Int := if numL c = 32 then -1 else (numL c : Nat)
theorem let_idx (c : Nat) (hc : c < 256) : firstIdx ⟨#[97, 98, 99, 100, 101, 102, 103, 104, 105, 106, 107, 108, 109, 110, 111, 112, 113, 114, 115, 116, 117, 118, 119, 120, 121, 122, 50, 51, 52, 53, 54, 55]⟩ ((c : Nat) : Int).toNat.toUInt8 = lgI c := by
  have : ∀ m : Fin 256, firstIdx ⟨#[97, 98, 99, 100, 101, 102, 103, 104, 105, 106, 107, 108, 109, 110, 111, 112, 113, 114, 115, 116, 117, 118, 119, 120, 121, 122, 50, 51, 52, 53, 54, 55]⟩ ((m.val : Nat) : Int).toNat.toUInt8 = lgI m.val := by decide +kernel
  exact this ⟨c, hc⟩
theorem letIdx_any (c : Nat) (hc : c < 256) (w : World) : Calls Try.prog 14 #[.string ⟨#[97, 98, 99, 100, 101, 102, 103, 104, 105, 106, 107, 108, 109, 110, 111, 112, 113, 114, 115, 116, 117, 118, 119, 120, 121, 122, 50, 51, 52, 53, 54, 55]⟩, .int .u8 (c : Nat)] w fun e w' => e = .returned (.int .i64 (lgI c)) ∧ w = w' := by
  have := indexByte_any ⟨#[97, 98, 99, 100, 101, 102, 103, 104, 105, 106, 107, 108, 109, 110, 111, 112, 113, 114, 115, 116, 117, 118, 119, 120, 121, 122, 50, 51, 52, 53, 54, 55]⟩ ((c : Nat) : Int) w
  rwa [let_idx c hc] at this

/-- the first k letters are groups -/
def grpK (t : List UInt8) (k : Nat) : List UInt8 := (List.range t.length).map fun j => if j < k then UInt8.ofNat (numL (t.getD j 0).toNat) else 0
theorem grpK_len (t : List UInt8) (k : Nat) : (grpK t k).length = t.length := by simp [grpK]
theorem grpK_zero (t : List UInt8) : grpK t 0 = List.replicate t.length 0 := by
  apply List.ext_getElem
  · rw [grpK_len]; simp
  · intro i h1 h2
    simp [grpK]
theorem grpK_all (t : List UInt8) : grpK t t.length = grpL t := by
  apply List.ext_getElem
  · rw [grpK_len]; simp [grpL]
  · intro i h1 h2
    have h3 : i < t.length := by rw [grpK_len] at h1; exact h1
    simp [grpK, grpL, List.getD_eq_getElem?_getD, h3]
theorem grpK_step (t : List UInt8) (k : Nat) (h : k < t.length) : (grpK t k).set k (UInt8.ofNat (numL t[k].toNat)) = grpK t (k + 1) := by
  apply List.ext_getElem
  · rw [List.length_set, grpK_len, grpK_len]
  · intro i h1 h2
    have h3 : i < t.length := by rw [grpK_len] at h2; exact h2
    rw [List.getElem_set]
    by_cases e : k = i
    · subst e
      simp [grpK, List.getD_eq_getElem?_getD, List.getElem?_eq_getElem h3]
    · rw [if_neg e]
      have e2 : (i < k) = (i < k + 1) := propext ⟨fun _ => by omega, fun _ => by omega⟩
      simp only [grpK, List.getElem_map, List.getElem_range, e2]
/-- are all of them letters? -/
def isL (t : List UInt8) : Bool := t.all fun c => numL c.toNat != 32
theorem isL_iff (t : List UInt8) : isL t = true ↔ allL t := by simp [isL, allL]
/-- the bytes of base 32, or the error -/
def un32 (t : List UInt8) : List UInt8 × Int := if isL t = true ∧ (rgA 5 8 (grpL t)).2.2 < 5 ∧ (rgA 5 8 (grpL t)).2.1 = 0 then ((rgA 5 8 (grpL t)).1, 0) else ([], 3)
theorem un32_off (t : List UInt8) (k : Nat) (h : k < t.length) (hn : numL t[k].toNat = 32) : un32 t = ([], 3) := by
  unfold un32
  rw [if_neg]
  rintro ⟨h1, _⟩
  exact (isL_iff t).1 h1 t[k] (List.getElem_mem h) hn

set_option maxRecDepth 100000 in
set_option maxHeartbeats 1000000 in
theorem unbase32_any (t : List UInt8) (w : World) (hl : t.length ≤ 20000) : Calls Try.prog 6 #[.string (bs t)] w fun e w' => e = .returned (.tuple #[.string (bs (un32 t).1), .int .i64 (un32 t).2]) ∧ Below w.heap.size w w' := by
  obtain ⟨i0, hi, hz0, hz1, hz2⟩ := info_parts Try.infoU
  have hbs := bs_size t
  have hoff := hide (fun k h hn => un32_off t k h hn)
  have hdef : Hid (un32 t = if isL t = true ∧ (rgA 5 8 (grpL t)).2.2 < 5 ∧ (rgA 5 8 (grpL t)).2.1 = 0 then ((rgA 5 8 (grpL t)).1, 0) else ([], 3)) := rfl
  generalize un32 t = RES at *
  obtain ⟨n, hn⟩ : ∃ n, n = t.length := ⟨_, rfl⟩
  rw [← hn] at hbs hl
  have Hn := hide hn
  clear hn
  go_enter Try.func6, Try.ntmps6
  go_wp2_with (at_make; refine wpList_make_full _ rfl _ _ 30 rfl w.heap.size 5 i0 (.int .u8 0) 1 Try.undB hi hz0 hz1 .i64 .i64 _ _ n rfl rfl rfl rfl ?c2 ?c3 ?c4 ?_)
  case c2 => rw [hz2]; omega
  case c3 => unfold maxLen; omega
  case c4 => exact Nat.le_refl _
  intro w1 hown hgrow
  have HB := hide ((Below.refl _ _).grown hgrow (Nat.le_refl _) (by intro k hk; cases hk))
  have HO : Hid (w1.ownsRow w.heap.size 5 1 (.slice (some ⟨w.heap.size, 0, none⟩) n n) n (bc (grpK t 0))) := by
    rw [grpK_zero, ← made_bytes, ← unhide Hn]; exact hown
  clear hown hgrow
  go_wp2
  go_loopw [15] (fun i wr => ∃ (k : Nat), k ≤ n ∧ i = .int .i64 (k : Nat) ∧ Hid (∀ j (h : j < t.length), j < k → numL t[j].toNat ≠ 32) ∧ Hid (wr.ownsRow w.heap.size 5 1 (.slice (some ⟨w.heap.size, 0, none⟩) n n) n (bc (grpK t k))) ∧ Hid (Below w.heap.size w wr)) (fun i _ => n - (intOf i).toNat)
  case atStart => exact ⟨0, Nat.zero_le _, rfl, fun j h h0 => absurd h0 (Nat.not_lt_zero _), HO, HB⟩
  case round =>
    clear HO HB
    obtain ⟨k, hk, rfl, HA, HO, HB⟩ := hrel
    have hz := (unhide HB).size
    by_cases hlt : k < n
    · have hkt : k < t.length := by rw [← unhide Hn]; exact hlt
      have hix := run_index_bs (P := Try.prog) 9 t k hkt (by kernel_rfl)
      have hlx := hide (fun w => letIdx_any t[k].toNat t[k].toNat_lt w)
      have hlk : (((k : Nat) : Int) < ((n : Nat) : Int)) := by omega
      have hle := numL_le t[k].toNat
      by_cases h32 : numL t[k].toNat = 32
      · have hr : Hid (RES = ([], 3)) := unhide hoff k hkt h32
        have hlg : lgI t[k].toNat = -1 := by unfold lgI; rw [if_pos h32]
        rw [hlg] at hlx
        clear hlg h32 hle
        generalize t[k].toNat = tv at *
        go_wp2_with fail
        refine (unhide hlx _).mono ?_
        rintro e w' ⟨rfl, rfl⟩
        go_wp2
        go_ret2
        exact ⟨by rw [unhide hr]; rfl, unhide HB⟩
      · have hlg : lgI t[k].toNat = (numL t[k].toNat : Nat) := by unfold lgI; rw [if_neg h32]
        rw [hlg] at hlx
        have hA2 : Hid (∀ j (h : j < t.length), j < k + 1 → numL t[j].toNat ≠ 32) := fun j h hj => by
          by_cases e : j = k
          · subst e; exact h32
          · exact unhide HA j h (by omega)
        have hfz := (unhide HO).frozenAt k
        obtain ⟨u, hce⟩ : ∃ u, wr.cell? ⟨w.heap.size, k, none⟩ = some u := ⟨_, ((unhide HO).cellAt k (by omega)).trans (bc_get _ _ (by rw [grpK_len]; exact hkt))⟩
        have hst := ((unhide HO).stored k (.int .u8 (numL t[k].toNat : Nat))).1
        have HS : Hid ((wr.setCell ⟨w.heap.size, k, none⟩ (.int .u8 (numL t[k].toNat : Nat))).ownsRow w.heap.size 5 1 (.slice (some ⟨w.heap.size, 0, none⟩) n n) n (bc (grpK t (k + 1)))) := by
          show World.ownsRow _ _ _ _ _ _ _
          rw [← grpK_step t k hkt]
          simp only [bc, List.map_set] at hst ⊢
          rw [ofN_toN _ (by omega)]
          exact hst
        have HB2 := hide ((unhide HB).setCell (p := ⟨w.heap.size, k, none⟩) (Nat.le_refl _) (.int .u8 (numL t[k].toNat : Nat)))
        have hw := wrap256 (numL t[k].toNat) (by omega)
        clear hlg h32 hst HO HB HA
        generalize numL t[k].toNat = nv at *
        have hnv : ¬ ((nv : Nat) : Int) < 0 := by omega
        generalize t[k].toNat = tv at *
        go_wp2_with fail
        refine (unhide hlx _).mono ?_
        rintro e w' ⟨rfl, rfl⟩
        go_wp2
        go_roundw
        case rel => exact ⟨k + 1, by omega, by go_num, hA2, HS, HB2⟩
        case measure => simp [intOf]; omega
    · have hke : k = n := by omega
      subst hke
      have hL : allL t := fun c hc => by
        obtain ⟨j, hj, rfl⟩ := List.getElem_of_mem hc
        exact unhide HA j hj (by rw [unhide Hn]; exact hj)
      have hlg : (grpL t).length = k := by rw [unhide Hn]; simp [grpL]
      have hcell : ∀ j (hj : j < (grpL t).length), wr.cell? ⟨w.heap.size, j, none⟩ = some (.int .u8 ((grpL t)[j].toNat : Nat)) := fun j hj => by
        have e : grpK t k = grpL t := by rw [unhide Hn, grpK_all]
        rw [(unhide HO).cellAt j (by omega), e, bc_get _ _ hj]
      have hrg := hide (regroup58 (grpL t) w.heap.size k wr (by omega) hcell (grpL_lt t hL))
      rw [hlg] at hrg
      rw [(isL_iff t).2 hL] at hdef
      have hr58 := rg58 (grpL t) (grpL_lt t hL)
      have q1 : ¬ ((k : Nat) : Int) < ((k : Nat) : Int) := by omega
      generalize rgA 5 8 (grpL t) = RG at *
      obtain ⟨O, h, c⟩ := RG
      dsimp only at *
      obtain ⟨r1, r2, r3, r4⟩ := hr58
      have h256 : h < 256 := Nat.lt_of_lt_of_le r2 (Nat.le_trans (Nat.pow_le_pow_right (by decide) (show c ≤ 8 by omega)) (by decide))
      clear hcell hL hoff HA HO r2 r3 r4
      go_wp2_with fail
      refine (unhide hrg).mono ?_
      rintro e w2 ⟨vo, h', rfl, hh, HO, b2⟩
      obtain rfl := unhide hh
      have HB2 := hide ((unhide HB).trans (b2.mono (unhide HB).size))
      have hcv := run_string_own (P := Try.prog) 30 9 Try.undB (by kernel_rfl) (by kernel_rfl) (unhide HO)
      obtain ⟨ao, cap, rfl⟩ := own_shape' (unhide HO)
      clear hh b2 hrg HO
      by_cases hgood : c < 5 ∧ h' = 0
      · obtain ⟨g1, rfl⟩ := hgood
        have hr : Hid (RES = (O, 0)) := by have := unhide hdef; rwa [if_pos ⟨trivial, g1, rfl⟩] at this
        have g2 : ¬ (5 : Int) ≤ ((c : Nat) : Int) := by omega
        have g3 : decide ((5 : Int) ≤ ((c : Nat) : Int)) = false := decide_eq_false g2
        generalize hD : O.toArray = D at *
        have HD := hide hD
        clear hD hdef
        go_wp2
        go_ret2
        exact ⟨by rw [unhide hr]; show _ = Ending.returned (.tuple #[.string ⟨O.toArray⟩, _]); rw [unhide HD]; rfl, unhide HB2⟩
      · have hr : Hid (RES = ([], 3)) := by have := unhide hdef; rwa [if_neg (fun h => hgood h.2)] at this
        clear hdef hcv
        by_cases g1 : c < 5
        · have g2 : ¬ (5 : Int) ≤ ((c : Nat) : Int) := by omega
          have g3 : decide ((5 : Int) ≤ ((c : Nat) : Int)) = false := decide_eq_false g2
          have g4 : ¬ h' = 0 := fun h => hgood ⟨g1, h⟩
          have g5 : ¬ ((h' : Nat) : Int) = 0 := by omega
          clear hgood
          go_wp2
          go_ret2
          exact ⟨by rw [unhide hr]; rfl, unhide HB2⟩
        · have g2 : (5 : Int) ≤ ((c : Nat) : Int) := by omega
          have g3 : decide ((5 : Int) ≤ ((c : Nat) : Int)) = true := decide_eq_true g2
          clear hgood
          go_wp2
          go_ret2
          exact ⟨by rw [unhide hr]; rfl, unhide HB2⟩

end Go.Proofs.Ytgcfmgkhbenooaa
