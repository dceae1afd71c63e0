/- Contract of the document's own Pad, of layer 1. -/
import Derived.Test.YtiaohpkcncbdnabShaHb
import Derived.Laws.OwnMore
namespace Go.Proofs.Ytiaohpkcncbdnab
open Go.RowKit
set_option linter.unusedVariables false

theorem news_lit (w : World) (xs : List Value) (t : TypeId) : ∀ j u, xs[j]? = some u → (w.alloc (.cells xs.toArray t)).cell? ((⟨w.heap.size, 0, none⟩ : Addr).add j) = some u := by
  intro j u h
  have hb := heap_alloc_new w (.cells xs.toArray t)
  rw [show (⟨w.heap.size, 0, none⟩ : Addr).add j = ⟨w.heap.size, j, none⟩ by unfold Addr.add; split <;> simp_all, cell_of_row _ _ j _ t (0, 0) hb]
  simpa using h

set_option maxRecDepth 100000 in
theorem rpad_none (n : Int) (w : World) (h : n < 0 ∨ 65536 < n) :
    Calls Try.prog 27 #[.int .i64 n] w fun e w' => e = .returned (.string ⟨#[]⟩) ∧ w = w' := by
  rcases h with h | h
  · go_enter Try.func27, Try.ntmps27
    go_wp2
    go_ret
    exact ⟨rfl, rfl⟩
  · have h' : ¬ n < 0 := by omega
    go_enter Try.func27, Try.ntmps27
    go_wp2
    go_ret
    exact ⟨rfl, rfl⟩

theorem putB8 (n : Nat) (h : n ≤ 65536) : bc (putB (8 * n) 8) = [.int .u8 0, .int .u8 0, .int .u8 0, .int .u8 0, .int .u8 (8 * (n : Int) / 16777216), .int .u8 (8 * (n : Int) / 65536 % 256), .int .u8 (8 * (n : Int) / 256 % 256), .int .u8 (8 * (n : Int) % 256)] := by
  have e : ∀ k, ((byteAt (8 * n) k).toNat : Int) = 8 * (n : Int) / 2 ^ (8 * k) % 256 := fun k => byteAt_val _ _
  simp only [putB_succ, show putB (8 * n) 0 = [] from rfl, bc, List.map_cons, List.map_nil, e]
  have z4 : 8 * (n : Int) / 2 ^ (8 * 4) % 256 = 0 := by show 8 * (n : Int) / 4294967296 % 256 = 0; omega
  have z5 : 8 * (n : Int) / 2 ^ (8 * 5) % 256 = 0 := by show 8 * (n : Int) / 1099511627776 % 256 = 0; omega
  have z6 : 8 * (n : Int) / 2 ^ (8 * 6) % 256 = 0 := by show 8 * (n : Int) / 281474976710656 % 256 = 0; omega
  have z7 : 8 * (n : Int) / 2 ^ (8 * 7) % 256 = 0 := by show 8 * (n : Int) / 72057594037927936 % 256 = 0; omega
  have z0 : 8 * (n : Int) / 2 ^ (8 * 0) % 256 = 8 * (n : Int) % 256 := by show 8 * (n : Int) / 1 % 256 = _; omega
  have z3 : 8 * (n : Int) / 2 ^ (8 * 3) % 256 = 8 * (n : Int) / 16777216 := by show 8 * (n : Int) / 16777216 % 256 = _; omega
  rw [z3, z4, z5, z6, z7, z0]
  rfl

/-- the padding, so far -/
def padR (k : Nat) : List UInt8 := 128 :: List.replicate k 0
theorem padR_zero : padR 0 = [128] := rfl
theorem padR_succ (k : Nat) : padR (k + 1) = padR k ++ [0] := by simp [padR, List.replicate_succ']
theorem padR_pad (n : Nat) : padL n = padR (zerosOf n) ++ putB (8 * n) 8 := rfl

set_option maxRecDepth 100000 in
set_option maxHeartbeats 1000000 in
theorem rpad_any (n : Nat) (w : World) (h : n ≤ 65536) :
    Calls Try.prog 27 #[.int .i64 n] w fun e w' => e = .returned (.string ⟨(padL n).toArray⟩) ∧ Below w.heap.size w w' := by
  obtain ⟨i0, hi, hz0, hz1, hz2⟩ := info_parts Try.infoU
  have a1 : ¬ (n : Int) < 0 := by omega
  have a2 : ¬ (65536 : Int) < n := by omega
  have hz := zerosOf_lt n
  have h8 := hide (putB8 n h)
  have hpp := hide (padR_pad n)
  have ez : (n + (1 + zerosOf n) + 8) % 64 = 0 := by unfold zerosOf; omega
  have ez2 : ∀ k, k < zerosOf n → (n + (1 + k) + 8) % 64 ≠ 0 := by unfold zerosOf; intro k hk; omega
  generalize zerosOf n = z at *
  have EZ := hide ez
  have EZ2 := hide ez2
  clear ez ez2
  go_enter Try.func27, Try.ntmps27
  have hl := World.ownsRow_lit (base := w.heap.size) (e := 5) (size := 1) w #[Value.int .u8 128] 1 (Nat.le_refl _) (by decide) rfl
  have HL := hide hl
  clear hl
  go_wp2
  go_loopw [3] (fun v wr => ∃ k : Nat, k ≤ z ∧ wr.ownsRow w.heap.size 5 1 v (1 + k) (bc (padR k)) ∧ Below w.heap.size w wr) (fun v _ => match v with | .slice _ l _ => 1 + z - l | _ => 0)
  case atStart => exact ⟨0, Nat.zero_le _, unhide HL, (Below.refl _ _).alloc (Nat.le_refl _) _⟩
  case round =>
    clear HL
    obtain ⟨k, hk, hown, hb⟩ := hrel
    obtain ⟨ao, cap, rfl⟩ := own_shape' hown
    have hz' := hb.size
    have HO := hide hown
    have HB := hide hb
    clear hown hb
    by_cases hlt : k < z
    · have c1 : ((n : Int) + (1 + k : Nat) + 8) % 64 ≠ 0 := by have := unhide EZ2 k hlt; omega
      go_wp2_with (at_builtin; refine wpList_append_own _ rfl _ _ 60 rfl w.heap.size 5 i0 (.int .u8 0) 1 1 Try.undB hi hz0 hz1 hz2 rfl (by decide) _ _ _ rfl ((unhide HO).alloc _) ⟨wr.heap.size, 0, none⟩ 1 1 [.int .u8 0] rfl rfl ?c1 ?c2 ?c3 ?c4 ?c5 ?_)
      case c1 => exact news_lit wr [.int .u8 0] 5
      case c2 => intro u hu; simp at hu; subst hu; rfl
      case c3 => unfold maxLen; omega
      case c4 => omega
      case c5 => simp; omega
      intro v' w1 hown' hgrow _
      have hb' := hide (((unhide HB).alloc (by omega) _).grown hgrow (by simp; omega) (fun k hk => (((unhide HO).lt k hk).1)))
      have ho2 : Hid (w1.ownsRow w.heap.size 5 1 v' (1 + (k + 1)) (bc (padR (k + 1)))) := by
        show World.ownsRow _ _ _ _ _ _ _
        rw [padR_succ, bc_append]
        exact hown'
      obtain ⟨ao', cap', rfl⟩ := own_shape' hown'
      clear hown' hgrow HO HB
      go_wp2
      go_roundw
      case rel => exact ⟨k + 1, by omega, unhide ho2, unhide hb'⟩
      case measure => simp; omega
    · have hke : k = z := by omega
      subst hke
      have c1 : ((n : Int) + (1 + k : Nat) + 8) % 64 = 0 := by have := unhide EZ; omega
      have h65 : (n : Int) ≤ 65536 := by omega
      go_wp2_with (at_builtin; refine wpList_append_own _ rfl _ _ 60 rfl w.heap.size 5 i0 (.int .u8 0) 1 1 Try.undB hi hz0 hz1 hz2 rfl (by decide) _ _ _ rfl ((unhide HO).alloc _) ⟨wr.heap.size, 0, none⟩ 8 8 (bc (putB (8 * n) 8)) rfl (by rw [bc_length, putB_length]) ?c1 (bc_oneCell _) ?c3 ?c4 ?c5 ?_)
      case c1 => rw [unhide h8]; exact news_lit wr _ 5
      case c3 => unfold maxLen; omega
      case c4 => omega
      case c5 => simp; omega
      intro v' w1 hown' hgrow _
      have hb' := hide (((unhide HB).alloc (by omega) _).grown hgrow (by simp; omega) (fun k hk => (((unhide HO).lt k hk).1)))
      rw [← bc_append, ← unhide hpp] at hown'
      have hcv := run_string_own (P := Try.prog) 60 9 Try.undB (by kernel_rfl) (by kernel_rfl) hown'
      obtain ⟨ao', cap', rfl⟩ := own_shape' hown'
      generalize hD : (padL n).toArray = D at *
      have HD := hide hD
      clear hown' hgrow HO HB hD
      go_wp2
      go_ret
      exact ⟨by rw [unhide HD]; rfl, unhide hb'⟩

end Go.Proofs.Ytiaohpkcncbdnab
