/- tracker: plane.checkAll. -/
import Derived.Test.YtjdphcjapdklpaaTkX
namespace Go.Proofs.Ytjdphcjapdklpaa
open Go.RowKit
set_option linter.unusedVariables false
attribute [local go_sem] Oper.semAt_some

def PlsAt (w : World) (a0 : Option Addr) (l : List (Int × Int)) : Prop := ∀ (t : Nat) (c : Int × Int), l[t]? = some c → ∃ g o, a0 = some ⟨g, o, none⟩ ∧ g < w.heap.size ∧ w.rangeAt g (o + t * 2) [.int .i64 c.1, .int .i64 c.2]
theorem PlsAt.up {w w' : World} {a0 : Option Addr} {l : List (Int × Int)} (h : PlsAt w a0 l) (hb : Below w.heap.size w w') : PlsAt w' a0 l := fun t c ht => by
  obtain ⟨g, o, h1, h2, h3⟩ := h t c ht
  exact ⟨g, o, h1, Nat.lt_of_lt_of_le h2 hb.size, fun j v hv => cell_below (h3 j v hv) hb⟩
set_option maxRecDepth 100000 in
set_option maxHeartbeats 4000000 in
theorem checkAll_any (a0 : Option Addr) (l : List (Int × Int)) (c : Nat) (w : World) (hA : PlsAt w a0 l) (hl : l.length ≤ 100000) (hok : ∀ p ∈ l, okP p.1 p.2 = true) :
    Calls Try.prog 33 #[.slice a0 l.length c] w fun e w' => e = .returned (.bool true) ∧ Below w.heap.size w w' := by
  have HA := hide hA
  have HOK := hide hok
  obtain ⟨n, hn⟩ : ∃ n, n = l.length := ⟨_, rfl⟩
  rw [← hn] at hl ⊢
  have HN := hide hn
  clear hn hA hok
  go_enter Try.func33, Try.ntmps33
  go_wp2_with fail
  go_loopw [7] (fun kv wr => ∃ i : Nat, i ≤ n ∧ kv = .int .i64 i ∧ Below w.heap.size w wr) (fun kv _ => n - (intOf kv).toNat)
  case atStart => exact ⟨0, by omega, rfl, Below.refl _ _⟩
  case round =>
    obtain ⟨i, hi2, rfl, hB⟩ := hrel
    have HB := hide hB
    clear hB
    by_cases hlt : i < n
    · have hlt' : i < l.length := by rw [← unhide HN]; exact hlt
      obtain ⟨p, hp⟩ : ∃ p, l[i]? = some p := ⟨_, List.getElem?_eq_getElem hlt'⟩
      obtain ⟨g, o, rfl, hgl, hra⟩ := ((unhide HA).up (unhide HB)) i p hp
      have HC := hide (fun W => check_gw p.1 p.2 W)
      rw [unhide HOK p (List.mem_of_getElem? hp)] at HC
      obtain ⟨px, py⟩ := p
      unfold rv at HC
      dsimp only at HC hra
      have HRA := hide hra
      have q1 : (i : Int) < n := by omega
      have hwr := (unhide HB).size
      clear hp hlt' hra
      go_wp2_with (refine wpList_load_mid rfl 23 (.tmp 9) rfl g (o + i * 2) rfl [.int .i64 px, .int .i64 py] _ (unhide HRA) Try.underlying23 rfl (by kernel_rfl) ?_)
      refine (unhide HC _).mono ?_
      rintro e w2 ⟨rfl, b2⟩
      have hb2 := b2.below
      have HB2 : Hid (Below w.heap.size w w2) := ((unhide HB).alloc hwr _).trans (hb2.mono (by simp; omega))
      clear b2 hb2 HRA HC
      go_wp2
      go_roundw
      case rel => exact ⟨i + 1, by omega, by go_num, unhide HB2⟩
      case measure => simp [intOf]; omega
    · have hin : i = n := by omega
      have q1 : ¬ (i : Int) < n := by omega
      clear hin
      go_wp2
      go_ret
      exact ⟨rfl, unhide HB⟩
end Go.Proofs.Ytjdphcjapdklpaa
