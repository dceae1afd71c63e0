/- tracker: Find. -/
import Derived.Test.YtjdphcjapdklpaaTkZf
namespace Go.Proofs.Ytjdphcjapdklpaa
open Go.RowKit Go.Sort
set_option linter.unusedVariables false
attribute [local go_sem] Oper.semAt_some

theorem bd_any (b mb : Nat) (f : Names) (N : Nat) (room : Int) (k : By) (x y now : Int) (w : World) (hT : TbAt w b mb f N room) (hk : k.length ≤ maxLen) :
    Calls Try.prog 22 #[.pointer (some ⟨b, 0, none⟩), .string (bs k), rv x y, .int .i64 now] w fun e w' => ∃ v, e = .returned (.tuple #[v, .int .i64 (bdE f k x y now)]) ∧ OwnNt w' w.heap.size v (bdL f k x y now) ∧ Below w.heap.size w w' := by
  unfold bdE bdL
  cases hb : (isT now && okP x y) with
  | false =>
    refine (bd_no b mb f N room k x y now w hT hk hb).mono ?_
    rintro e w' ⟨rfl, h⟩
    exact ⟨_, rfl, World.ownsRow_nil _ _ _ _, h⟩
  | true =>
    refine (bd_yes b mb f N room k x y now w hT hk hb).mono ?_
    rintro e w' ⟨v, rfl, h1, h2⟩
    exact ⟨v, rfl, h1, h2⟩
/-- what Find answers -/
def fdL (f : Names) (k : By) (x y K now : Int) : List Int := if K < 0 then [] else ((bdL f k x y now).take K.toNat).map Nt.nd
def fdE (f : Names) (k : By) (x y K now : Int) : Int := if K < 0 then 1 else bdE f k x y now
theorem NtsAt.take {w : World} {a0 : Option Addr} {l : List Nt} (h : NtsAt w a0 l) (m : Nat) : NtsAt w a0 (l.take m) := fun t c ht => by
  rw [List.getElem?_take] at ht
  split at ht
  · exact h t c ht
  · cases ht
set_option maxRecDepth 100000 in
set_option maxHeartbeats 4000000 in
theorem find_any (b mb : Nat) (f : Names) (N : Nat) (room : Int) (k : By) (x y K now : Int) (w : World) (hT : TbAt w b mb f N room) (hk : k.length ≤ maxLen) :
    Calls Try.prog 12 #[.pointer (some ⟨b, 0, none⟩), .string (bs k), rv x y, .int .i64 K, .int .i64 now] w fun e w' => ∃ v, e = .returned (.tuple #[v, .int .i64 (fdE f k x y K now)]) ∧ OwnI w' w.heap.size v (fdL f k x y K now) ∧ Below w.heap.size w w' := by
  have HBD := hide (fun W (h : TbAt W b mb f N room) => bd_any b mb f N room k x y now W h hk)
  have T0 := hide (two_alloc w (.int .i64 x) (.int .i64 y) 23)
  obtain ⟨W0, hW0⟩ : ∃ W0, W0 = w.alloc (.cells #[.int .i64 x, .int .i64 y] 23) := ⟨_, rfl⟩
  have B0 : Hid (Below w.heap.size w W0) := by show Below _ _ _; rw [hW0]; exact (Below.refl _ _).alloc (Nat.le_refl _) _
  rw [← hW0] at T0
  have HW := hide hW0
  have HTB := hide (hT.up (unhide B0))
  have hlen := bd_len hT.ok k x y now
  have f00 := (unhide T0).c0
  have f01 := (unhide T0).c1
  clear hT hW0
  unfold fdL fdE
  by_cases hK : K < 0
  · rw [if_pos hK, if_pos hK]
    clear hlen
    generalize bdE f k x y now = E at *
    unfold rv at *
    go_enter Try.func12, Try.ntmps12
    go_wp2_with fail
    rw [← unhide HW]
    go_wp2
    go_ret2
    exact ⟨_, rfl, World.ownsRow_nil _ _ _ _, unhide B0⟩
  rw [if_neg hK, if_neg hK]
  generalize bdE f k x y now = E at *
  generalize bdL f k x y now = L at *
  have HNO := hide (fun a0 c m W (h : NtsAt W a0 L) => nodesOf_any a0 (L.take m) c W (h.take m) (by rw [List.length_take]; omega))
  obtain ⟨R, hR⟩ : ∃ R, R = (L.take K.toNat).map Nt.nd := ⟨_, rfl⟩
  rw [← hR]
  have HR := hide hR
  clear hR
  unfold rv at *
  go_enter Try.func12, Try.ntmps12
  go_wp2_with fail
  rw [← unhide HW]
  clear HW
  go_wp2_with fail
  refine (unhide HBD _ (unhide HTB)).mono ?_
  rintro e w1 ⟨v, rfl, hO, b1⟩
  obtain ⟨a1, c1, rfl, hN, hc⟩ := hO.nts
  have B1 := hide ((unhide B0).trans (b1.mono (unhide B0).size))
  have HN := hide hN
  clear hO hN b1 B0 T0 f00 f01 HBD HTB
  obtain ⟨n, hn⟩ : ∃ n, n = L.length := ⟨_, rfl⟩
  rw [← hn] at hc hlen ⊢
  obtain ⟨m, hm⟩ : ∃ m : Nat, m = min K.toNat n := ⟨_, rfl⟩
  have hm2 : (L.take K.toNat) = L.take m := by
    rw [hm, hn]
    rcases Nat.le_total K.toNat L.length with h | h
    · rw [Nat.min_eq_left h]
    · rw [Nat.min_eq_right h, List.take_of_length_le h, List.take_length]
  have hm3 : (L.take m).length = m := by rw [List.length_take, ← hn]; omega
  have hNO := unhide HNO a1 c1 m
  rw [hm3] at hNO
  have HR2 : Hid (R = (L.take m).map Nt.nd) := (unhide HR).trans (by rw [hm2])
  clear HR
  have HNO2 := hide hNO
  have hmn : m ≤ n := by omega
  have hmc : m ≤ c1 := by omega
  have HM := hide hm
  have hmin : min K (n : Int) = (m : Int) := by omega
  clear hm hm2 hm3 hn hNO HNO
  go_wp2_with fail
  refine (unhide HNO2 w1 (unhide HN)).mono ?_
  rintro e w2 ⟨v, rfl, hO, b2⟩
  have HF : Hid (OwnI w2 w.heap.size v R) := by
    show OwnI _ _ _ _
    rw [unhide HR2]
    exact ownI_le hO (unhide B1).size
  have B2 := hide ((unhide B1).trans (b2.mono (unhide B1).size))
  clear hO b2 HNO2 HN B1
  go_wp2
  go_ret2
  exact ⟨_, rfl, unhide HF, unhide B2⟩
end Go.Proofs.Ytjdphcjapdklpaa
