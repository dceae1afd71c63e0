/- Contract of sha.Hex. -/
import Derived.Test.YtahejlimdgniiaaShaP
import Derived.Deep.RegionLaw
namespace Go.Proofs.Ytahejlimdgniiaa
open Go.RowKit
set_option linter.unusedVariables false

/-- the hexadecimal digits -/
def hexTab : List UInt8 := [48, 49, 50, 51, 52, 53, 54, 55, 56, 57, 97, 98, 99, 100, 101, 102]
def hexD (k : Nat) : UInt8 := hexTab.getD k 0
/-- bytes in digits -/
def hexL : List UInt8 → List UInt8
  | [] => []
  | b :: l => hexD (b.toNat / 16) :: hexD (b.toNat % 16) :: hexL l
theorem hexL_append (l m : List UInt8) : hexL (l ++ m) = hexL l ++ hexL m := by
  induction l with
  | nil => rfl
  | cons b l ih => simp [hexL, ih]
theorem hexL_length (l : List UInt8) : (hexL l).length = 2 * l.length := by
  induction l with
  | nil => rfl
  | cons b l ih => simp [hexL, ih]; omega

theorem run_hexTab {P : Program} (t : TypeId) (k : IntKind) (n : Nat) (hn : n < 16) (h : P.underlying t = some .string) (w : World) :
    (Instr.index t (.string ⟨#[48, 49, 50, 51, 52, 53, 54, 55, 56, 57, 97, 98, 99, 100, 101, 102]⟩) (.int k n)).run P w = .ok (.int .u8 (hexD n).toNat) w := by
  have hs : (⟨#[48, 49, 50, 51, 52, 53, 54, 55, 56, 57, 97, 98, 99, 100, 101, 102]⟩ : ByteArray)[n]? = some (hexD n) := by
    have : ∀ m : Fin 16, (⟨#[48, 49, 50, 51, 52, 53, 54, 55, 56, 57, 97, 98, 99, 100, 101, 102]⟩ : ByteArray)[m.val]? = some (hexD m.val) := by decide +kernel
    exact this ⟨n, hn⟩
  simp [Instr.index, asIntOf, run_underlying h, hs]

theorem step_append_own {P : Program} {ops : Array Oper} {o : Oper} {a : Act} {w : World} {K : Act → World → Prop} {Q : Exit → Act → World → Prop} {E : Prop} (hgd : o.guard = none) (s x : Operand) (t : TypeId)
    (ho : o.op = .call { callee := .builtin .append, args := #[s, x], argTypes := #[t, t] })
    (base : Nat) (e : TypeId) (i : TypeInfo) (z : Value) (size bytes : Nat) (ht : P.underlying t = some (.slice e)) (hi : P.info? e = some i) (hz : i.zero = some z)
    (hsize : i.size = size) (hby : i.bytes = bytes) (hzs : z.cells.size = size) (hsz : 0 < size)
    (v : Value) (n : Nat) (xs : List Value) (hs : a.eval s = v) (hown : w.ownsRow base e size v n xs)
    (ad : Addr) (m c : Nat) (news : List Value) (hx : a.eval x = .slice (some ad) m c) (hl : news.length = m * size) (hnews : ∀ j u, news[j]? = some u → w.cell? (ad.add j) = some u) (h1 : ∀ u ∈ news, u.oneCell' = true)
    (h63 : n + m ≤ maxLen) (hbytes : (n + m) * bytes ≤ 140737488355328) (hbase : base ≤ w.heap.size)
    (h : ∀ v' w', w'.ownsRow base e size v' (n + m) (xs ++ news) → w.grownBy w' v.ownBlock → K (a.put o.dst v') w') :
    if Region.wanted o (yielded ops a.tmps) = true then Oper.wp P o a w K Q else E := by
  have hw : Region.wanted o (yielded ops a.tmps) = true := by simp [Region.wanted, hgd]
  rw [if_pos hw]
  exact wp_append_own w s x t ho base e i z size bytes ht hi hz hsize hby hzs hsz v n xs hs hown ad m c news hx hl hnews h1 h63 hbytes hbase fun v' w' a b _ => h v' w' a b
theorem take_snoc' (s : ByteArray) (k : Nat) (h : k < s.size) : s.data.toList.take (k + 1) = s.data.toList.take k ++ [s[k]] := by
  rw [List.take_succ_eq_append_getElem (by simpa using h)]; rfl
theorem own_shape' {w : World} {base n : Nat} {e : TypeId} {v : Value} {xs : List Value} (hown : w.ownsRow base e 1 v n xs) : ∃ ao cap, v = .slice ao n cap := by
  rcases hown.2 with ⟨h', h0⟩ | ⟨g, cap', cur, h', _⟩
  · exact ⟨none, 0, by rw [h', h0]⟩
  · exact ⟨_, _, h'⟩
theorem and15 (b : UInt8) : bits .and .u8 (b.toNat : Int) 15 = ((b.toNat % 16 : Nat) : Int) := by
  have := b.toNat_lt
  rw [u8_and15 _ (by omega) (by omega)]
  omega
theorem news_two (w : World) (x y : Value) (t : TypeId) : ∀ j u, [x, y][j]? = some u → (w.alloc (.cells #[x, y] t)).cell? ((⟨w.heap.size, 0, none⟩ : Addr).add j) = some u := by
  intro j u h
  have hb := heap_alloc_new w (.cells #[x, y] t)
  rw [show (⟨w.heap.size, 0, none⟩ : Addr).add j = ⟨w.heap.size, j, none⟩ by unfold Addr.add; split <;> simp_all, cell_of_row _ _ j _ t (0, 0) hb]
  simpa using h

set_option maxHeartbeats 1000000 in
theorem hex_any (s : ByteArray) (w : World) (hs : s.size ≤ 100000) :
    Calls Try.prog 26 #[.string s] w fun e w' => e = .returned (.string ⟨(hexL s.data.toList).toArray⟩) ∧ Below w.heap.size w w' := by
  obtain ⟨i0, hi, hz0, hz1, hz2⟩ := info_parts Try.infoU
  go_enter Try.func26, Try.ntmps26
  go_wp2_with (at_make; refine wpList_make_own _ rfl _ _ 47 rfl w.heap.size 5 i0 (.int .u8 0) 1 Try.undB hi hz0 hz1 .i64 .i64 _ (2 * s.size) rfl rfl ?c0 ?c2 ?c3 ?c4 ?_)
  case c0 => omega
  case c2 => rw [hz2]; omega
  case c3 => unfold maxLen; omega
  case c4 => exact Nat.le_refl _
  intro w1 hown hgrow
  have b1 : Below w.heap.size w w1 := (Below.refl _ _).grown hgrow (Nat.le_refl _) (by intro k hk; cases hk)
  clear hgrow
  have hs' : (s.size : Int) ≤ 100000 := by omega
  go_wp2
  go_loopw [3, 11] (fun v i wr => ∃ k : Nat, k ≤ s.size ∧ i = .int .i64 k ∧ wr.ownsRow w.heap.size 5 1 v (2 * k) (bc (hexL (s.data.toList.take k))) ∧ Below w.heap.size w wr) (fun _ i _ => s.size - (intOf i).toNat)
  case atStart => exact ⟨0, Nat.zero_le _, rfl, hown, b1⟩
  case round =>
    clear hown b1
    obtain ⟨k, hk, rfl, hown, hb⟩ := hrel
    obtain ⟨ao, cap, rfl⟩ := own_shape' hown
    by_cases hlt : k < s.size
    · have hbt := s[k].toNat_lt
      have i1 : ∀ w, (Instr.index 9 (.string s) (.int .i64 k)).run Try.prog w = .ok (.int .u8 s[k].toNat) w := fun w => by
        rw [run_index_string w 9 s .i64 k (by kernel_rfl)]
        simp [hlt]
      have i2 := run_hexTab (P := Try.prog) 9 .u8 (s[k].toNat / 16) (by omega) (by kernel_rfl)
      have i3 := run_hexTab (P := Try.prog) 9 .u8 (s[k].toNat % 16) (by omega) (by kernel_rfl)
      have hand := and15 s[k]
      have hsn : Hid (hexL (s.data.toList.take (k + 1)) = hexL (s.data.toList.take k) ++ [hexD (s[k].toNat / 16), hexD (s[k].toNat % 16)]) := by
        show _ = _
        rw [take_snoc' s k hlt, hexL_append]
        rfl
      have hdv : ((s[k].toNat : Int) / 16) = ((s[k].toNat / 16 : Nat) : Int) := by omega
      generalize s[k].toNat / 16 = hi4 at *
      generalize s[k].toNat % 16 = lo4 at *
      generalize s[k].toNat = bv at *
      have hz := hb.size
      have HO := hide hown
      have HB := hide hb
      clear hown hb
      go_wp2
      go_region_law ((refine step_append_own rfl (.tmp 14) (.tmp 25) 47 rfl w.heap.size 5 i0 (.int .u8 0) 1 1 Try.undB hi hz0 hz1 hz2 rfl (by decide) (.slice ao (2 * k) cap) (2 * k) _ (by rfl) ((unhide HO).alloc _) ⟨wr.heap.size, 0, none⟩ 2 2 [.int .u8 (hexD hi4).toNat, .int .u8 (hexD lo4).toNat] (by rfl) (by rfl) (news_two _ _ _ _) (by intro u hu; simp at hu; rcases hu with rfl | rfl <;> rfl) (by unfold maxLen; omega) (by omega) (by simp; omega) ?_; intro v' w2 hown2 hgrow2))
      all_goals
        have hb2 : Below w.heap.size w w2 := (((unhide HB).alloc (by omega) _).drew).grown hgrow2 (by simp; omega) (fun k hk => ((unhide HO).lt k hk).1)
        have ho3 : Hid (w2.ownsRow w.heap.size 5 1 v' (2 * (k + 1)) (bc (hexL (s.data.toList.take (k + 1))))) := by
          show World.ownsRow _ _ _ _ _ _ _
          rw [unhide hsn, bc_append]
          exact hown2
        have HB2 := hide hb2
        obtain ⟨ao', cap', rfl⟩ := own_shape' hown2
        clear hown2 hgrow2 hb2 HO HB
        go_wp2
        go_roundw
        case rel => exact ⟨k + 1, by omega, by go_num, unhide ho3, unhide HB2⟩
        case measure => simp [intOf]; omega
    · have hke : k = s.size := by omega
      subst hke
      rw [List.take_of_length_le (by rw [blen]; exact Nat.le_refl _)] at hown
      have hcv := run_string_own (P := Try.prog) 47 9 Try.undB (by kernel_rfl) (by kernel_rfl) hown
      generalize hD : (hexL s.data.toList).toArray = D at *
      have HD := hide hD
      have HB := hide hb
      clear hD hown hb
      go_wp2
      go_ret
      exact ⟨by rw [unhide HD]; rfl, unhide HB⟩

end Go.Proofs.Ytahejlimdgniiaa
