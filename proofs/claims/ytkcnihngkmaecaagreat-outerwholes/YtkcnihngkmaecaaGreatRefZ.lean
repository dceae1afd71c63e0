/- Contract of the document's own Pad, of layer 1. Contracts of the document's own functions of layer 1: rotr, K, Start. Laws of single operations, for regions that draw their order. Contract of the document's own Words, of layer 1. Contract of the document's own Mix, of layer 1. -/
import Derived.Test.YtkcnihngkmaecaaGreatShaHb
import Derived.Laws.OwnMore
import Derived.Test.YtkcnihngkmaecaaGreatShaZ
import Derived.Test.YtkcnihngkmaecaaGreatRegB
import Derived.Test.YtkcnihngkmaecaaGreatShaY
namespace Go.Proofs.YtkcnihngkmaecaaGreat
open Go.RowKit
set_option linter.unusedVariables false

theorem news_lit (w : World) (xs : List Value) (t : TypeId) : ∀ j u, xs[j]? = some u → (w.alloc (.cells xs.toArray t)).cell? ((⟨w.heap.size, 0, none⟩ : Addr).add j) = some u := by
  intro j u h
  have hb := heap_alloc_new w (.cells xs.toArray t)
  rw [show (⟨w.heap.size, 0, none⟩ : Addr).add j = ⟨w.heap.size, j, none⟩ by unfold Addr.add; split <;> simp_all, cell_of_row _ _ j _ t (0, 0) hb]
  simpa using h

set_option maxRecDepth 100000 in
theorem rpad_none (n : Int) (w : World) (h : n < 0 ∨ 65536 < n) :
    Calls Tryz.prog 104 #[.int .i64 n] w fun e w' => e = .returned (.string ⟨#[]⟩) ∧ w = w' := by
  rcases h with h | h
  · go_enter Tryz.func104, Tryz.ntmps104
    go_wp2
    go_ret
    exact ⟨rfl, rfl⟩
  · have h' : ¬ n < 0 := by omega
    go_enter Tryz.func104, Tryz.ntmps104
    go_wp2
    go_ret
    exact ⟨rfl, rfl⟩

theorem putB8 (n : Nat) (h : n ≤ 65536) : bc (putB (8 * n) 8) = [.int .u8 0, .int .u8 0, .int .u8 0, .int .u8 0, .int .u8 (8 * (n : Int) / 16777216), .int .u8 (8 * (n : Int) / 65536 % 256), .int .u8 (8 * (n : Int) / 256 % 256), .int .u8 (8 * (n : Int) % 256)] := by
  have e : ∀ k, ((byteAt (8 * n) k).toNat : Int) = 8 * (n : Int) / 2 ^ (8 * k) % 256 := fun k => byteAt_val _ _
  simp only [putB_succ, show putB (8 * n) 0 = [] from rfl, bc, List.map_cons, List.map_nil, e]
  have z4 : 8 * (n : Int) / 2 ^ (8 * 4) % 256 = 0 := by show 8 * (n : Int) / 4294967296 % 256 = 0; omega
  have z5 : 8 * (n : Int) / 2 ^ (8 * 5) % 256 = 0 := by show 8 * (n : Int) / 1099511627776 % 256 = 0; omega
  have z6 : 8 * (n : Int) / 2 ^ (8 * 6) % 256 = 0 := by show 8 * (n : Int) / 281474976710656 % 256 = 0; omega
  have z7 : 8 * (n : Int) / 2 ^ (8 * 7) % 256 = 0 := by show 8 * (n : Int) / 72057594037927936 % 256 = 0; omega
  have z0 : 8 * (n : Int) / 2 ^ (8 * 0) % 256 = 8 * (n : Int) % 256 := by show 8 * (n : Int) / 1 % 256 = _; omega
  have z3 : 8 * (n : Int) / 2 ^ (8 * 3) % 256 = 8 * (n : Int) / 16777216 := by show 8 * (n : Int) / 16777216 % 256 = _; omega
  rw [z3, z4, z5, z6, z7, z0]
  rfl

/-- the padding, so far -/
def padR (k : Nat) : List UInt8 := 128 :: List.replicate k 0
theorem padR_zero : padR 0 = [128] := rfl
theorem padR_succ (k : Nat) : padR (k + 1) = padR k ++ [0] := by simp [padR, List.replicate_succ']
theorem padR_pad (n : Nat) : padL n = padR (zerosOf n) ++ putB (8 * n) 8 := rfl

set_option maxRecDepth 100000 in
set_option maxHeartbeats 1000000 in
theorem rpad_any (n : Nat) (w : World) (h : n ≤ 65536) :
    Calls Tryz.prog 104 #[.int .i64 n] w fun e w' => e = .returned (.string ⟨(padL n).toArray⟩) ∧ Below w.heap.size w w' := by
  obtain ⟨i0, hi, hz0, hz1, hz2⟩ := info_parts Tryz.infoU
  have a1 : ¬ (n : Int) < 0 := by omega
  have a2 : ¬ (65536 : Int) < n := by omega
  have hz := zerosOf_lt n
  have h8 := hide (putB8 n h)
  have hpp := hide (padR_pad n)
  have ez : (n + (1 + zerosOf n) + 8) % 64 = 0 := by unfold zerosOf; omega
  have ez2 : ∀ k, k < zerosOf n → (n + (1 + k) + 8) % 64 ≠ 0 := by unfold zerosOf; intro k hk; omega
  generalize zerosOf n = z at *
  have EZ := hide ez
  have EZ2 := hide ez2
  clear ez ez2
  go_enter Tryz.func104, Tryz.ntmps104
  have hl := World.ownsRow_lit (base := w.heap.size) (e := 5) (size := 1) w #[Value.int .u8 128] 1 (Nat.le_refl _) (by decide) rfl
  have HL := hide hl
  clear hl
  go_wp2
  go_loopw [3] (fun v wr => ∃ k : Nat, k ≤ z ∧ wr.ownsRow w.heap.size 5 1 v (1 + k) (bc (padR k)) ∧ Below w.heap.size w wr) (fun v _ => match v with | .slice _ l _ => 1 + z - l | _ => 0)
  case atStart => exact ⟨0, Nat.zero_le _, unhide HL, (Below.refl _ _).alloc (Nat.le_refl _) _⟩
  case round =>
    clear HL
    obtain ⟨k, hk, hown, hb⟩ := hrel
    obtain ⟨ao, cap, rfl⟩ := own_shape' hown
    have hz' := hb.size
    have HO := hide hown
    have HB := hide hb
    clear hown hb
    by_cases hlt : k < z
    · have c1 : ((n : Int) + (1 + k : Nat) + 8) % 64 ≠ 0 := by have := unhide EZ2 k hlt; omega
      go_wp2_with (at_builtin; refine wpList_append_own _ rfl _ _ 88 rfl w.heap.size 5 i0 (.int .u8 0) 1 1 Tryz.undB hi hz0 hz1 hz2 rfl (by decide) _ _ _ rfl ((unhide HO).alloc _) ⟨wr.heap.size, 0, none⟩ 1 1 [.int .u8 0] rfl rfl ?c1 ?c2 ?c3 ?c4 ?c5 ?_)
      case c1 => exact news_lit wr [.int .u8 0] 5
      case c2 => intro u hu; simp at hu; subst hu; rfl
      case c3 => unfold maxLen; omega
      case c4 => omega
      case c5 => simp; omega
      intro v' w1 hown' hgrow _
      have hb' := hide (((unhide HB).alloc (by omega) _).grown hgrow (by simp; omega) (fun k hk => (((unhide HO).lt k hk).1)))
      have ho2 : Hid (w1.ownsRow w.heap.size 5 1 v' (1 + (k + 1)) (bc (padR (k + 1)))) := by
        show World.ownsRow _ _ _ _ _ _ _
        rw [padR_succ, bc_append]
        exact hown'
      obtain ⟨ao', cap', rfl⟩ := own_shape' hown'
      clear hown' hgrow HO HB
      go_wp2
      go_roundw
      case rel => exact ⟨k + 1, by omega, unhide ho2, unhide hb'⟩
      case measure => simp; omega
    · have hke : k = z := by omega
      subst hke
      have c1 : ((n : Int) + (1 + k : Nat) + 8) % 64 = 0 := by have := unhide EZ; omega
      have h65 : (n : Int) ≤ 65536 := by omega
      go_wp2_with (at_builtin; refine wpList_append_own _ rfl _ _ 88 rfl w.heap.size 5 i0 (.int .u8 0) 1 1 Tryz.undB hi hz0 hz1 hz2 rfl (by decide) _ _ _ rfl ((unhide HO).alloc _) ⟨wr.heap.size, 0, none⟩ 8 8 (bc (putB (8 * n) 8)) rfl (by rw [bc_length, putB_length]) ?c1 (bc_oneCell _) ?c3 ?c4 ?c5 ?_)
      case c1 => rw [unhide h8]; exact news_lit wr _ 5
      case c3 => unfold maxLen; omega
      case c4 => omega
      case c5 => simp; omega
      intro v' w1 hown' hgrow _
      have hb' := hide (((unhide HB).alloc (by omega) _).grown hgrow (by simp; omega) (fun k hk => (((unhide HO).lt k hk).1)))
      rw [← bc_append, ← unhide hpp] at hown'
      have hcv := run_string_own (P := Tryz.prog) 88 9 Tryz.undB (by kernel_rfl) (by kernel_rfl) hown'
      obtain ⟨ao', cap', rfl⟩ := own_shape' hown'
      generalize hD : (padL n).toArray = D at *
      have HD := hide hD
      clear hown' hgrow HO HB hD
      go_wp2
      go_ret
      exact ⟨by rw [unhide HD]; rfl, unhide hb'⟩

end Go.Proofs.YtkcnihngkmaecaaGreat
namespace Go.Proofs.YtkcnihngkmaecaaGreat
open Go.RowKit
set_option linter.unusedVariables false

set_option maxRecDepth 100000 in
theorem rrotr_any (x : UInt32) (n : Nat) (h1 : 1 ≤ n) (h2 : n ≤ 31) (w : World) :
    Calls Tryz.prog 112 #[.int .u32 (n32 x), .int .u64 n] w fun e w' => e = .returned (.int .u32 (n32 (rot x n))) ∧ w = w' := by
  have hs := hide (rot_spell x n h1 h2)
  obtain ⟨m, hm⟩ : ∃ m, m = 32 - n := ⟨_, rfl⟩
  rw [← hm] at hs
  have m1 : 1 ≤ m := by omega
  have m2 : m ≤ 31 := by omega
  have m3 : (32 : Int) - n = m := by omega
  clear hm
  go_enter Tryz.func112, Tryz.ntmps112
  go_wp2
  go_ret
  refine ⟨?_, rfl⟩
  rw [← unhide hs]
  rfl
theorem rrotr_i (x : UInt32) (n : Int) (w : World) (h1 : 1 ≤ n) (h2 : n ≤ 31) : Calls Tryz.prog 112 #[.int .u32 (n32 x), .int .u64 n] w fun e w' => e = .returned (.int .u32 (n32 (rot x n.toNat))) ∧ w' = w := by
  obtain ⟨k, rfl⟩ := Int.eq_ofNat_of_zero_le (show 0 ≤ n by omega)
  exact flip_same (rrotr_any x k (by omega) (by omega) w)
theorem rrotr_j (x : UInt32) (n : Int) (w : World) (h1 : 1 ≤ n) (h2 : n ≤ 31) : Calls Tryz.prog 112 #[.int .u32 (n32 x), .int .u64 n] w fun e w' => e = .returned (.int .u32 (n32 (rot x n.toNat))) ∧ w = w' := by
  obtain ⟨k, rfl⟩ := Int.eq_ofNat_of_zero_le (show 0 ≤ n by omega)
  exact rrotr_any x k (by omega) (by omega) w

theorem wpList_valueW {P : Program} {ops : Array Oper} {rest : List Oper} {o : Oper} {a : Act} {w : World} {Q : Exit → Act → World → Prop} (v : Value) (w2 : World) (hg : o.guard = none) (t : TypeId) (n : Nat) (ps : Array (Nat × Operand)) (ho : o.op = .buildSlice t n ps)
    (hrun : (execOp a.eval o).run P w = .ok (.value v) w2) (h : wpList P ops Q rest (a.put o.dst v) w2) : wpList P ops Q (o :: rest) a w :=
  wpList_plain hg fun _ hK => by
    unfold Oper.wp
    rw [hrun]
    exact hK _ _ h

set_option maxRecDepth 100000 in
theorem rK_any (w : World) :
    Calls Tryz.prog 111 #[] w fun e w' => e = .returned (.slice (some ⟨w.heap.size, 0, none⟩) 64 64) ∧ WordsAt w' w.heap.size 103 KK ∧ Below w.heap.size w w' := by
  obtain ⟨S, hS⟩ : ∃ S, S = (uc KK).toArray := ⟨_, rfl⟩
  have HS := hide hS
  clear hS
  go_enter Tryz.func111, Tryz.ntmps111
  go_wp2_with (refine wpList_valueW (.slice (some ⟨w.heap.size, 0, none⟩) 64 64) (w.alloc (.cells S 103)) rfl _ _ _ rfl ?hb ?_)
  case hb => rw [unhide HS]; kernel_rfl
  go_ret
  refine ⟨rfl, ?_, (Below.refl _ _).alloc (Nat.le_refl _) _⟩
  show _ = _
  rw [heap_alloc_new, unhide HS]
set_option maxRecDepth 100000 in
theorem rStart_any (w : World) :
    Calls Tryz.prog 105 #[] w fun e w' => e = .returned (.slice (some ⟨w.heap.size, 0, none⟩) 8 8) ∧ WordsAt w' w.heap.size 103 H0 ∧ Below w.heap.size w w' := by
  go_enter Tryz.func105, Tryz.ntmps105
  go_wp2
  go_ret
  exact ⟨rfl, heap_alloc_new _ _, (Below.refl _ _).alloc (Nat.le_refl _) _⟩

end Go.Proofs.YtkcnihngkmaecaaGreat
namespace Go.Proofs.YtkcnihngkmaecaaGreat
open Go.RowKit
set_option linter.unusedVariables false

section
variable {P : Program} {o : Oper} {a : Act} {w : World} {K : Act → World → Prop} {Q : Exit → Act → World → Prop}

theorem wp_mul64 (t t' : TypeId) (x y : Operand) (ho : o.op = .binOp .mul t x y t') (ht : P.underlying t = some (.int .i64)) (m n : Int)
    (hx : a.eval x = .int .i64 m) (hy : a.eval y = .int .i64 n) (h0 : -9223372036854775808 ≤ m * n) (h1 : m * n ≤ 9223372036854775807) (h : K (a.put o.dst (.int .i64 (m * n))) w) : o.wp P a w K Q := by
  refine wp_val _ ?_ h
  have hw : IntKind.i64.wrap (m * n) = m * n := IntWalk.i64_in _ ⟨h0, h1⟩
  simp only [execOp, ho, hx, hy]
  go_simp
  try rw [hw]
theorem wp_sub64 (t t' : TypeId) (x y : Operand) (ho : o.op = .binOp .sub t x y t') (ht : P.underlying t = some (.int .i64)) (m n : Int)
    (hx : a.eval x = .int .i64 m) (hy : a.eval y = .int .i64 n) (h0 : -9223372036854775808 ≤ m - n) (h1 : m - n ≤ 9223372036854775807) (h : K (a.put o.dst (.int .i64 (m - n))) w) : o.wp P a w K Q := by
  refine wp_val _ ?_ h
  have hw : IntKind.i64.wrap (m - n) = m - n := IntWalk.i64_in _ ⟨h0, h1⟩
  simp only [execOp, ho, hx, hy]
  go_simp
  try rw [hw]
theorem wp_addU32 (t t' : TypeId) (x y : Operand) (ho : o.op = .binOp .add t x y t') (ht : P.underlying t = some (.int .u32)) (m n r : Int)
    (hx : a.eval x = .int .u32 m) (hy : a.eval y = .int .u32 n) (hr : (m + n) % 4294967296 = r) (h : K (a.put o.dst (.int .u32 r)) w) : o.wp P a w K Q := by
  refine wp_val _ ?_ h
  have hw : IntKind.u32.wrap (m + n) = r := by rw [← hr]; simp [IntKind.wrap, IntKind.bits, IntKind.signed]
  simp only [execOp, ho, hx, hy]
  go_simp
  try rw [hw]
theorem wp_shlU32 (t t' : TypeId) (x y : Operand) (ho : o.op = .binOp .shl t x y t') (ht : P.underlying t = some (.int .u32)) (m r : Int) (n : Nat) (hn : n ≤ 32)
    (hx : a.eval x = .int .u32 m) (hy : a.eval y = .int .u64 n) (hr : m * 2 ^ n % 4294967296 = r) (h : K (a.put o.dst (.int .u32 r)) w) : o.wp P a w K Q := by
  refine wp_val _ ?_ h
  have hw : IntKind.u32.wrap (m * 2 ^ n) = r := by rw [← hr]; simp [IntKind.wrap, IntKind.bits, IntKind.signed]
  have h1 : (n : Int) ≤ 32 := by omega
  simp only [execOp, ho, hx, hy]
  go_simp
  try rw [hw]
theorem wp_conv832 (s t : TypeId) (x : Operand) (ho : o.op = .convert s t x) (hs : P.underlying s = some (.int .u8)) (ht : P.underlying t = some (.int .u32)) (m : Nat) (hm : m < 256)
    (hx : a.eval x = .int .u8 m) (h : K (a.put o.dst (.int .u32 m)) w) : o.wp P a w K Q := by
  refine wp_val _ ?_ h
  have hw : IntKind.u32.wrap (m : Int) = m := by simp [IntKind.wrap, IntKind.bits, IntKind.signed]; omega
  simp only [execOp, ho, hx]
  go_simp
  try rw [hw]
theorem wp_index_str (t : TypeId) (x y : Operand) (ho : o.op = .index t x y) (vx vy v : Value)
    (hx : a.eval x = vx) (hy : a.eval y = vy) (hr : ∀ w, (Instr.index t vx vy).run P w = .ok v w) (h : K (a.put o.dst v) w) : o.wp P a w K Q := by
  refine wp_val _ ?_ h
  simp [execOp, ho, hx, hy, hr]
theorem wp_indexAddr (t : TypeId) (x y : Operand) (ho : o.op = .indexAddr t x y) (vx vy v : Value)
    (hx : a.eval x = vx) (hy : a.eval y = vy) (hr : ∀ w, (Instr.indexAt t vx vy).run P w = .ok v w) (h : K (a.put o.dst v) w) : o.wp P a w K Q := by
  refine wp_val _ ?_ h
  simp [execOp, ho, hx, hy, hr]
theorem wp_load1 (t : TypeId) (x : Operand) (ho : o.op = .load t x) (vx v : Value) (hx : a.eval x = vx) (hr : (Instr.loadAt t vx).run P w = .ok v w)
    (h : K (a.put o.dst v) w) : o.wp P a w K Q := by
  refine wp_val _ ?_ h
  simp [execOp, ho, hx, hr]
theorem wp_buildR (t : TypeId) (n : Nat) (xs : Array (Nat × Operand)) (ho : o.op = .buildSlice t n xs) (ps : Array (Nat × Value)) (hp : xs.map (fun x => (x.1, a.eval x.2)) = ps) (v : Value) (w2 : World) (hr : (Instr.buildSlice t n ps).run P w = .ok v w2)
    (h : K (a.put o.dst v) w2) : o.wp P a w K Q := by
  unfold Oper.wp
  have : (execOp a.eval o).run P w = .ok (.value v) w2 := by
    simp only [execOp, ho]
    rw [show (xs.map fun (i, x) => (i, a.eval x)) = ps from hp]
    simp [hr]
  rw [this]
  exact h
end

theorem build32_1 (v : Int) (w : World) : (Instr.buildSlice 102 1 #[(0, .int .u32 v)]).run Tryz.prog w = .ok (.slice (some ⟨w.heap.size, 0, none⟩) 1 1) (w.alloc (.cells #[.int .u32 v] 103)) := by
  go_simp
theorem build32_8 (a b c d e f g h : Int) (w : World) : (Instr.buildSlice 102 8 #[(0, .int .u32 a), (1, .int .u32 b), (2, .int .u32 c), (3, .int .u32 d), (4, .int .u32 e), (5, .int .u32 f), (6, .int .u32 g), (7, .int .u32 h)]).run Tryz.prog w = .ok (.slice (some ⟨w.heap.size, 0, none⟩) 8 8) (w.alloc (.cells #[.int .u32 a, .int .u32 b, .int .u32 c, .int .u32 d, .int .u32 e, .int .u32 f, .int .u32 g, .int .u32 h] 103)) := by
  go_simp

theorem iaddr32 (g k n cap : Nat) (kk : Int) (hkk : kk = k) (h : k < n) (w : World) : (Instr.indexAt 102 (.slice (some ⟨g, 0, none⟩) n cap) (.int .i64 kk)).run Tryz.prog w = .ok (.pointer (some ⟨g, k, none⟩)) w := by
  subst hkk
  have h1 : (k : Int) < n := by omega
  go_simp
theorem load32 (p : Addr) (v : Value) (w : World) (h : w.cell? p = some v) : (Instr.loadAt 103 (.pointer (some p))).run Tryz.prog w = .ok v w := by
  go_simp

end Go.Proofs.YtkcnihngkmaecaaGreat
namespace Go.Proofs.YtkcnihngkmaecaaGreat
open Go.RowKit
set_option linter.unusedVariables false

theorem push_val (x : UInt32) (b : UInt8) : n32 (pushByte x b) = n32 x * 256 % 4294967296 + b.toNat := by
  have hb := b.toNat_lt
  have hx := x.toNat_lt
  unfold pushByte n32
  rw [UInt32.toNat_or, UInt32.toNat_shiftLeft, UInt32.toNat_ofNat', Nat.mod_eq_of_lt (show b.toNat < 2 ^ 32 by omega), Nat.shiftLeft_eq]
  have e1 : x.toNat * 2 ^ ((8 : UInt32).toNat % 32) % 2 ^ 32 = (x.toNat % 16777216) * 2 ^ 8 := by
    show x.toNat * 256 % 4294967296 = x.toNat % 16777216 * 256
    omega
  rw [e1, ← Nat.shiftLeft_eq, ← Nat.shiftLeft_add_eq_or_of_lt hb, Nat.shiftLeft_eq]
  omega
theorem take4 (L : List UInt8) (q : Nat) (h : q + 4 ≤ L.length) : (L.drop q).take 4 = [L[q], L[q + 1], L[q + 2], L[q + 3]] := by
  apply List.ext_getElem
  · simp only [List.length_take, List.length_drop, List.length_cons, List.length_nil]; omega
  · intro i h1 h2
    have hi : i < 4 := by simpa using h2
    rw [List.getElem_take, List.getElem_drop]
    rcases i with _ | _ | _ | _ | i
    · rfl
    · rfl
    · rfl
    · rfl
    · omega
theorem wpart_val (B : List UInt8) (hB : B.length = 64) (j : Nat) (hj : j < 16) :
    n32 (wpart B 64 j) = (B[4 * j]).toNat * 16777216 + (B[4 * j + 1]).toNat * 65536 + (B[4 * j + 2]).toNat * 256 + (B[4 * j + 3]).toNat := by
  unfold wpart
  rw [show B.take 64 = B from List.take_of_length_le (by omega), take4 B (4 * j) (by omega)]
  have h0 := (B[4 * j]).toNat_lt
  have h1 := (B[4 * j + 1]).toNat_lt
  have h2 := (B[4 * j + 2]).toNat_lt
  have h3 := (B[4 * j + 3]).toNat_lt
  simp only [List.foldl_cons, List.foldl_nil, push_val]
  have : n32 0 = 0 := rfl
  omega
theorem sched0_take (B : List UInt8) (j : Nat) (hj : j < 16) : (schedN B 0).take (j + 1) = (schedN B 0).take j ++ [wpart B 64 j] := by
  rw [List.take_succ_eq_append_getElem (by rw [schedN_length]; omega)]
  congr 2
  simp only [schedN, List.getElem_take]
  exact wparts_get B 64 j (by omega)
theorem idx_str (s : ByteArray) (i : Int) (j : Nat) (hi : i = j) (hj : j < s.size) (w : World) : (Instr.index 9 (.string s) (.int .i64 i)).run Tryz.prog w = .ok (.int .u8 s[j].toNat) w := by
  subst hi
  rw [run_index_string w 9 s .i64 j (by kernel_rfl)]
  simp [hj]
theorem getB (s : ByteArray) (j : Nat) (h : j < s.size) : s.data.toList[j]'(by rw [blen]; exact h) = s[j] := rfl

theorem Tryz.infoW : (Tryz.prog.info? 103).map (fun i => (i.zero, i.size, i.bytes)) = some (some (.int .u32 0), 1, 4) := by kernel_rfl
theorem Tryz.undW : Tryz.prog.underlying 102 = some (.slice 103) := by kernel_rfl

theorem own_words {w : World} {base n : Nat} {v : Value} {L : List UInt32} (h : w.ownsRow base 103 1 v n (uc L)) (hn : 0 < n) : ∃ g cap, v = .slice (some ⟨g, 0, none⟩) n cap ∧ base ≤ g ∧ g < w.heap.size ∧ (∀ j, (hj : j < L.length) → w.cell? ⟨g, j, none⟩ = some (.int .u32 (n32 L[j]))) := by
  have hl : L.length = n := by have := h.1; rw [uc_length] at this; omega
  rcases h.2 with ⟨h', h0⟩ | ⟨g, cap', cur, h', hb⟩
  · omega
  · subst h'
    refine ⟨g, cap', rfl, (h.lt g rfl).1, (h.lt g rfl).2, fun j hj => ?_⟩
    rw [h.cellAt j (by omega), uc_get _ _ hj]

theorem wrap32 (x : Nat) (h : x < 4294967296) : IntKind.u32.wrap (x : Int) = x := by
  simp [IntKind.wrap, IntKind.bits, IntKind.signed]
  omega
theorem wrapI (x : Int) (h0 : 0 ≤ x) (h : x < 1000000) : IntKind.i64.wrap x = x := IntWalk.i64_in _ ⟨by omega, by omega⟩

attribute [local go_sem] xor32 and32 or32 add32 shr32_3 shr32_10

set_option maxRecDepth 100000 in
set_option maxHeartbeats 4000000 in
theorem rWords_any (b : ByteArray) (hb : b.size = 64) (w : World) :
    Calls Tryz.prog 110 #[.string b] w fun e w' => ∃ v, e = .returned v ∧ w'.ownsRow w.heap.size 103 1 v 64 (uc (sched b.data.toList)) ∧ Below w.heap.size w w' := by
  obtain ⟨i0, hi, hz0, hz1, hz2⟩ := info_parts Tryz.infoW
  have HB := hide hb
  clear hb
  go_enter Tryz.func110, Tryz.ntmps110
  go_wp2
  go_loopw [3, 4] (fun v i wr => ∃ k : Nat, k ≤ 16 ∧ i = .int .i64 k ∧ wr.ownsRow w.heap.size 103 1 v k (uc ((schedN b.data.toList 0).take k)) ∧ Below w.heap.size w wr) (fun _ i _ => 16 - (intOf i).toNat)
  case atStart => exact ⟨0, Nat.zero_le _, rfl, World.ownsRow_nil _ _ _ _, Below.refl _ _⟩
  case round =>
    obtain ⟨k, hk, rfl, hown, hb⟩ := hrel
    obtain ⟨ao, cap, rfl⟩ := own_shape' hown
    have hz := hb.size
    have HO := hide hown
    have HBB := hide hb
    clear hown hb
    by_cases hlt : k < 16
    · have q0 : 4 * k < b.size := by rw [unhide HB]; omega
      have q1 : 4 * k + 1 < b.size := by rw [unhide HB]; omega
      have q2 : 4 * k + 2 < b.size := by rw [unhide HB]; omega
      have q3 : 4 * k + 3 < b.size := by rw [unhide HB]; omega
      have i0' := idx_str b (4 * (k : Int)) (4 * k) (by omega) q0
      have i1' := idx_str b (4 * (k : Int) + 1) (4 * k + 1) (by omega) q1
      have i2' := idx_str b (4 * (k : Int) + 2) (4 * k + 2) (by omega) q2
      have i3' := idx_str b (4 * (k : Int) + 3) (4 * k + 3) (by omega) q3
      have hv := hide (wpart_val b.data.toList (by rw [blen]; exact unhide HB) k hlt)
      rw [getB b _ q0, getB b _ q1, getB b _ q2, getB b _ q3] at hv
      have htk := hide (sched0_take b.data.toList k hlt)
      have c0 := b[4 * k].toNat_lt
      have c1 := b[4 * k + 1].toNat_lt
      have c2 := b[4 * k + 2].toNat_lt
      have c3 := b[4 * k + 3].toNat_lt
      generalize b[4 * k].toNat = x0 at *
      generalize b[4 * k + 1].toNat = x1 at *
      generalize b[4 * k + 2].toNat = x2 at *
      generalize b[4 * k + 3].toNat = x3 at *
      go_wp2
      obtain ⟨W0, hW0⟩ : ∃ W0, W0 = wr.drew := ⟨_, rfl⟩
      have HOW : Hid (W0.ownsRow w.heap.size 103 1 (.slice ao k cap) k (uc ((schedN b.data.toList 0).take k))) := by show World.ownsRow _ _ _ _ _ _ _; rw [hW0]; exact (unhide HO).drew
      have HBW : Hid (Below w.heap.size w W0) := by show Below _ _ _; rw [hW0]; exact (unhide HBB).drew
      have hzW := (unhide HBW).size
      generalize hA : Act.mk _ _ = A
      have hA0 : A.eval (.tmp 0) = .string b := by rw [← hA]; rfl
      have hA3 : A.eval (.tmp 3) = .slice ao k cap := by rw [← hA]; rfl
      have hA4 : A.eval (.tmp 4) = .int .i64 k := by rw [← hA]; rfl
      have hAs : A.tmps.size = 95 := by rw [← hA]; rfl
      obtain ⟨V, hVe⟩ : ∃ V : List (Nat × Nat × Value), V = [(0, 14, .slice ao k cap), (1, 15, .string b), (2, 16, .int .i64 k), (3, 17, .int .i64 (4 * (k : Int))), (4, 18, .int .u8 x0), (5, 19, .int .u32 x0), (6, 20, .int .u32 ((x0 : Int) * 16777216)), (7, 21, .string b), (8, 22, .int .i64 k), (9, 23, .int .i64 (4 * (k : Int))), (10, 24, .int .i64 (4 * (k : Int) + 1)), (11, 25, .int .u8 x1), (12, 26, .int .u32 x1), (13, 27, .int .u32 ((x1 : Int) * 65536)), (14, 28, .int .u32 ((x0 : Int) * 16777216 + (x1 : Int) * 65536)), (15, 29, .string b), (16, 30, .int .i64 k), (17, 31, .int .i64 (4 * (k : Int))), (18, 32, .int .i64 (4 * (k : Int) + 2)), (19, 33, .int .u8 x2), (20, 34, .int .u32 x2), (21, 35, .int .u32 ((x2 : Int) * 256)), (22, 36, .int .u32 ((x0 : Int) * 16777216 + (x1 : Int) * 65536 + (x2 : Int) * 256)), (23, 37, .string b), (24, 38, .int .i64 k), (25, 39, .int .i64 (4 * (k : Int))), (26, 40, .int .i64 (4 * (k : Int) + 3)), (27, 41, .int .u8 x3), (28, 42, .int .u32 x3), (29, 43, .int .u32 ((x0 : Int) * 16777216 + (x1 : Int) * 65536 + (x2 : Int) * 256 + x3)), (30, 44, .slice (some ⟨W0.heap.size, 0, none⟩) 1 1)] := ⟨_, rfl⟩
      refine wp_region_invB0 (by kernel_rfl) (by kernel_rfl) (by kernel_rfl) (fun f a wx => Off [3, 14, 15, 16, 17, 18, 19, 20, 21, 22, 23, 24, 25, 26, 27, 28, 29, 30, 31, 32, 33, 34, 35, 36, 37, 38, 39, 40, 41, 42, 43, 44, 45] A a ∧ ValsOk V f a ∧ (f 31 = true → f 30 = true ∧ f 0 = true) ∧ (f 30 = false → wx = W0) ∧ (f 30 = true → f 31 = false → wx = W0.alloc (.cells #[.int .u32 ((x0 : Int) * 16777216 + (x1 : Int) * 65536 + (x2 : Int) * 256 + x3)] 103)) ∧ ∃ v', (f 31 = true → a.eval (.tmp 45) = v' ∧ wx.ownsRow w.heap.size 103 1 v' (k + 1) (uc ((schedN b.data.toList 0).take k) ++ [.int .u32 ((x0 : Int) * 16777216 + (x1 : Int) * 65536 + (x2 : Int) * 256 + x3)]) ∧ Below w.heap.size w wx) ∧ (f 32 = true → a.eval (.tmp 3) = v') ∧ (f 32 = true → f 31 = true) ∧ (f 32 = false → a.eval (.tmp 3) = .slice ao k cap)) ?start ?step ?fin
      case start => exact ⟨Off.refl _ _, vals_start _ _, by simp, fun _ => hW0.symm, by simp, .int .i64 0, by simp, by simp, by simp, fun _ => hA3⟩
      case step =>
        rintro f a wx i o ⟨hoff, hV, hm, n0, n1, v', n2, n3, n4, n5⟩ ho hfi hdep
        have has : a.tmps.size = 95 := hoff.size.trans hAs
        have hv := fun (i d : Nat) (v : Value) (hm : (i, d, v) ∈ V) (hf : f i = true) => hV (i, d, v) hm hf
        rcases i with _ | _ | _ | _ | _ | _ | _ | _ | _ | _ | _ | _ | _ | _ | _ | _ | _ | _ | _ | _ | _ | _ | _ | _ | _ | _ | _ | _ | _ | _ | _ | _ | _ | i
        · obtain rfl := Option.some.inj ho
          have f32 : f 32 = false := by
            cases hf : f 32 with
            | false => rfl
            | true => exact absurd (hm (n4 hf)).2 (by rw [hfi]; simp)
          refine wp_move (.tmp 3) rfl ?_
          rw [n5 f32]
          exact ⟨hoff.put 14 _ (by simp), vals_put hV 0 14 _ (by omega) (by rw [hVe]; simp) (by rw [hVe]; simp), fun h => ⟨(hm h).1, rfl⟩, n0, n1, v', fun h => ⟨(eval_put_ne a 14 45 _ (by decide)).trans (n2 h).1, (n2 h).2⟩, fun h => (eval_put_ne a 14 3 _ (by decide)).trans (n3 h), n4, fun h => (eval_put_ne a 14 3 _ (by decide)).trans (n5 h)⟩
        · obtain rfl := Option.some.inj ho
          refine wp_move (.tmp 0) rfl ?_
          rw [((hoff.eval 0 (by simp)).trans hA0)]
          exact ⟨hoff.put 15 _ (by simp), vals_put hV 1 15 _ (by omega) (by rw [hVe]; simp) (by rw [hVe]; simp), hm, n0, n1, v', fun h => ⟨(eval_put_ne a 15 45 _ (by decide)).trans (n2 h).1, (n2 h).2⟩, fun h => (eval_put_ne a 15 3 _ (by decide)).trans (n3 h), n4, fun h => (eval_put_ne a 15 3 _ (by decide)).trans (n5 h)⟩
        · obtain rfl := Option.some.inj ho
          refine wp_move (.tmp 4) rfl ?_
          rw [((hoff.eval 4 (by simp)).trans hA4)]
          exact ⟨hoff.put 16 _ (by simp), vals_put hV 2 16 _ (by omega) (by rw [hVe]; simp) (by rw [hVe]; simp), hm, n0, n1, v', fun h => ⟨(eval_put_ne a 16 45 _ (by decide)).trans (n2 h).1, (n2 h).2⟩, fun h => (eval_put_ne a 16 3 _ (by decide)).trans (n3 h), n4, fun h => (eval_put_ne a 16 3 _ (by decide)).trans (n5 h)⟩
        · obtain rfl := Option.some.inj ho
          have d2 : f 2 = true := hdep ⟨2, .data⟩ (by simp) rfl
          refine wp_mul64 3 3 (.const (.int .i64 4)) (.tmp 16) rfl Tryz.underlying3 4 k rfl (hv 2 16 (.int .i64 k) (by rw [hVe]; simp) d2) (by omega) (by omega) ?_
          exact ⟨hoff.put 17 _ (by simp), vals_put hV 3 17 _ (by omega) (by rw [hVe]; simp) (by rw [hVe]; simp), hm, n0, n1, v', fun h => ⟨(eval_put_ne a 17 45 _ (by decide)).trans (n2 h).1, (n2 h).2⟩, fun h => (eval_put_ne a 17 3 _ (by decide)).trans (n3 h), n4, fun h => (eval_put_ne a 17 3 _ (by decide)).trans (n5 h)⟩
        · obtain rfl := Option.some.inj ho
          have d1 : f 1 = true := hdep ⟨1, .data⟩ (by simp) rfl
          have d3 : f 3 = true := hdep ⟨3, .data⟩ (by simp) rfl
          refine wp_index_str 9 (.tmp 15) (.tmp 17) rfl _ _ (.int .u8 x0) (hv 1 15 (.string b) (by rw [hVe]; simp) d1) (hv 3 17 (.int .i64 (4 * (k : Int))) (by rw [hVe]; simp) d3) i0' ?_
          exact ⟨hoff.put 18 _ (by simp), vals_put hV 4 18 _ (by omega) (by rw [hVe]; simp) (by rw [hVe]; simp), hm, n0, n1, v', fun h => ⟨(eval_put_ne a 18 45 _ (by decide)).trans (n2 h).1, (n2 h).2⟩, fun h => (eval_put_ne a 18 3 _ (by decide)).trans (n3 h), n4, fun h => (eval_put_ne a 18 3 _ (by decide)).trans (n5 h)⟩
        · obtain rfl := Option.some.inj ho
          have d4 : f 4 = true := hdep ⟨4, .data⟩ (by simp) rfl
          refine wp_conv832 5 103 (.tmp 18) rfl Tryz.underlying5 Tryz.underlying103 x0 c0 (hv 4 18 (.int .u8 x0) (by rw [hVe]; simp) d4) ?_
          exact ⟨hoff.put 19 _ (by simp), vals_put hV 5 19 _ (by omega) (by rw [hVe]; simp) (by rw [hVe]; simp), hm, n0, n1, v', fun h => ⟨(eval_put_ne a 19 45 _ (by decide)).trans (n2 h).1, (n2 h).2⟩, fun h => (eval_put_ne a 19 3 _ (by decide)).trans (n3 h), n4, fun h => (eval_put_ne a 19 3 _ (by decide)).trans (n5 h)⟩
        · obtain rfl := Option.some.inj ho
          have d5 : f 5 = true := hdep ⟨5, .data⟩ (by simp) rfl
          refine wp_shlU32 103 101 (.tmp 19) (.const (.int .u64 24)) rfl Tryz.underlying103 x0 ((x0 : Int) * 16777216) 24 (by decide) (hv 5 19 (.int .u32 x0) (by rw [hVe]; simp) d5) rfl (by omega) ?_
          exact ⟨hoff.put 20 _ (by simp), vals_put hV 6 20 _ (by omega) (by rw [hVe]; simp) (by rw [hVe]; simp), hm, n0, n1, v', fun h => ⟨(eval_put_ne a 20 45 _ (by decide)).trans (n2 h).1, (n2 h).2⟩, fun h => (eval_put_ne a 20 3 _ (by decide)).trans (n3 h), n4, fun h => (eval_put_ne a 20 3 _ (by decide)).trans (n5 h)⟩
        · obtain rfl := Option.some.inj ho
          refine wp_move (.tmp 0) rfl ?_
          rw [((hoff.eval 0 (by simp)).trans hA0)]
          exact ⟨hoff.put 21 _ (by simp), vals_put hV 7 21 _ (by omega) (by rw [hVe]; simp) (by rw [hVe]; simp), hm, n0, n1, v', fun h => ⟨(eval_put_ne a 21 45 _ (by decide)).trans (n2 h).1, (n2 h).2⟩, fun h => (eval_put_ne a 21 3 _ (by decide)).trans (n3 h), n4, fun h => (eval_put_ne a 21 3 _ (by decide)).trans (n5 h)⟩
        · obtain rfl := Option.some.inj ho
          refine wp_move (.tmp 4) rfl ?_
          rw [((hoff.eval 4 (by simp)).trans hA4)]
          exact ⟨hoff.put 22 _ (by simp), vals_put hV 8 22 _ (by omega) (by rw [hVe]; simp) (by rw [hVe]; simp), hm, n0, n1, v', fun h => ⟨(eval_put_ne a 22 45 _ (by decide)).trans (n2 h).1, (n2 h).2⟩, fun h => (eval_put_ne a 22 3 _ (by decide)).trans (n3 h), n4, fun h => (eval_put_ne a 22 3 _ (by decide)).trans (n5 h)⟩
        · obtain rfl := Option.some.inj ho
          have d8 : f 8 = true := hdep ⟨8, .data⟩ (by simp) rfl
          refine wp_mul64 3 3 (.const (.int .i64 4)) (.tmp 22) rfl Tryz.underlying3 4 k rfl (hv 8 22 (.int .i64 k) (by rw [hVe]; simp) d8) (by omega) (by omega) ?_
          exact ⟨hoff.put 23 _ (by simp), vals_put hV 9 23 _ (by omega) (by rw [hVe]; simp) (by rw [hVe]; simp), hm, n0, n1, v', fun h => ⟨(eval_put_ne a 23 45 _ (by decide)).trans (n2 h).1, (n2 h).2⟩, fun h => (eval_put_ne a 23 3 _ (by decide)).trans (n3 h), n4, fun h => (eval_put_ne a 23 3 _ (by decide)).trans (n5 h)⟩
        · obtain rfl := Option.some.inj ho
          have d9 : f 9 = true := hdep ⟨9, .data⟩ (by simp) rfl
          refine wp_add64 3 3 (.tmp 23) (.const (.int .i64 1)) rfl Tryz.underlying3 (4 * (k : Int)) 1 (hv 9 23 (.int .i64 (4 * (k : Int))) (by rw [hVe]; simp) d9) rfl (by omega) (by omega) ?_
          exact ⟨hoff.put 24 _ (by simp), vals_put hV 10 24 _ (by omega) (by rw [hVe]; simp) (by rw [hVe]; simp), hm, n0, n1, v', fun h => ⟨(eval_put_ne a 24 45 _ (by decide)).trans (n2 h).1, (n2 h).2⟩, fun h => (eval_put_ne a 24 3 _ (by decide)).trans (n3 h), n4, fun h => (eval_put_ne a 24 3 _ (by decide)).trans (n5 h)⟩
        · obtain rfl := Option.some.inj ho
          have d7 : f 7 = true := hdep ⟨7, .data⟩ (by simp) rfl
          have d10 : f 10 = true := hdep ⟨10, .data⟩ (by simp) rfl
          refine wp_index_str 9 (.tmp 21) (.tmp 24) rfl _ _ (.int .u8 x1) (hv 7 21 (.string b) (by rw [hVe]; simp) d7) (hv 10 24 (.int .i64 (4 * (k : Int) + 1)) (by rw [hVe]; simp) d10) i1' ?_
          exact ⟨hoff.put 25 _ (by simp), vals_put hV 11 25 _ (by omega) (by rw [hVe]; simp) (by rw [hVe]; simp), hm, n0, n1, v', fun h => ⟨(eval_put_ne a 25 45 _ (by decide)).trans (n2 h).1, (n2 h).2⟩, fun h => (eval_put_ne a 25 3 _ (by decide)).trans (n3 h), n4, fun h => (eval_put_ne a 25 3 _ (by decide)).trans (n5 h)⟩
        · obtain rfl := Option.some.inj ho
          have d11 : f 11 = true := hdep ⟨11, .data⟩ (by simp) rfl
          refine wp_conv832 5 103 (.tmp 25) rfl Tryz.underlying5 Tryz.underlying103 x1 c1 (hv 11 25 (.int .u8 x1) (by rw [hVe]; simp) d11) ?_
          exact ⟨hoff.put 26 _ (by simp), vals_put hV 12 26 _ (by omega) (by rw [hVe]; simp) (by rw [hVe]; simp), hm, n0, n1, v', fun h => ⟨(eval_put_ne a 26 45 _ (by decide)).trans (n2 h).1, (n2 h).2⟩, fun h => (eval_put_ne a 26 3 _ (by decide)).trans (n3 h), n4, fun h => (eval_put_ne a 26 3 _ (by decide)).trans (n5 h)⟩
        · obtain rfl := Option.some.inj ho
          have d12 : f 12 = true := hdep ⟨12, .data⟩ (by simp) rfl
          refine wp_shlU32 103 101 (.tmp 26) (.const (.int .u64 16)) rfl Tryz.underlying103 x1 ((x1 : Int) * 65536) 16 (by decide) (hv 12 26 (.int .u32 x1) (by rw [hVe]; simp) d12) rfl (by omega) ?_
          exact ⟨hoff.put 27 _ (by simp), vals_put hV 13 27 _ (by omega) (by rw [hVe]; simp) (by rw [hVe]; simp), hm, n0, n1, v', fun h => ⟨(eval_put_ne a 27 45 _ (by decide)).trans (n2 h).1, (n2 h).2⟩, fun h => (eval_put_ne a 27 3 _ (by decide)).trans (n3 h), n4, fun h => (eval_put_ne a 27 3 _ (by decide)).trans (n5 h)⟩
        · obtain rfl := Option.some.inj ho
          have d6 : f 6 = true := hdep ⟨6, .data⟩ (by simp) rfl
          have d13 : f 13 = true := hdep ⟨13, .data⟩ (by simp) rfl
          refine wp_addU32 103 103 (.tmp 20) (.tmp 27) rfl Tryz.underlying103 ((x0 : Int) * 16777216) ((x1 : Int) * 65536) ((x0 : Int) * 16777216 + (x1 : Int) * 65536) (hv 6 20 (.int .u32 ((x0 : Int) * 16777216)) (by rw [hVe]; simp) d6) (hv 13 27 (.int .u32 ((x1 : Int) * 65536)) (by rw [hVe]; simp) d13) (by omega) ?_
          exact ⟨hoff.put 28 _ (by simp), vals_put hV 14 28 _ (by omega) (by rw [hVe]; simp) (by rw [hVe]; simp), hm, n0, n1, v', fun h => ⟨(eval_put_ne a 28 45 _ (by decide)).trans (n2 h).1, (n2 h).2⟩, fun h => (eval_put_ne a 28 3 _ (by decide)).trans (n3 h), n4, fun h => (eval_put_ne a 28 3 _ (by decide)).trans (n5 h)⟩
        · obtain rfl := Option.some.inj ho
          refine wp_move (.tmp 0) rfl ?_
          rw [((hoff.eval 0 (by simp)).trans hA0)]
          exact ⟨hoff.put 29 _ (by simp), vals_put hV 15 29 _ (by omega) (by rw [hVe]; simp) (by rw [hVe]; simp), hm, n0, n1, v', fun h => ⟨(eval_put_ne a 29 45 _ (by decide)).trans (n2 h).1, (n2 h).2⟩, fun h => (eval_put_ne a 29 3 _ (by decide)).trans (n3 h), n4, fun h => (eval_put_ne a 29 3 _ (by decide)).trans (n5 h)⟩
        · obtain rfl := Option.some.inj ho
          refine wp_move (.tmp 4) rfl ?_
          rw [((hoff.eval 4 (by simp)).trans hA4)]
          exact ⟨hoff.put 30 _ (by simp), vals_put hV 16 30 _ (by omega) (by rw [hVe]; simp) (by rw [hVe]; simp), hm, n0, n1, v', fun h => ⟨(eval_put_ne a 30 45 _ (by decide)).trans (n2 h).1, (n2 h).2⟩, fun h => (eval_put_ne a 30 3 _ (by decide)).trans (n3 h), n4, fun h => (eval_put_ne a 30 3 _ (by decide)).trans (n5 h)⟩
        · obtain rfl := Option.some.inj ho
          have d16 : f 16 = true := hdep ⟨16, .data⟩ (by simp) rfl
          refine wp_mul64 3 3 (.const (.int .i64 4)) (.tmp 30) rfl Tryz.underlying3 4 k rfl (hv 16 30 (.int .i64 k) (by rw [hVe]; simp) d16) (by omega) (by omega) ?_
          exact ⟨hoff.put 31 _ (by simp), vals_put hV 17 31 _ (by omega) (by rw [hVe]; simp) (by rw [hVe]; simp), hm, n0, n1, v', fun h => ⟨(eval_put_ne a 31 45 _ (by decide)).trans (n2 h).1, (n2 h).2⟩, fun h => (eval_put_ne a 31 3 _ (by decide)).trans (n3 h), n4, fun h => (eval_put_ne a 31 3 _ (by decide)).trans (n5 h)⟩
        · obtain rfl := Option.some.inj ho
          have d17 : f 17 = true := hdep ⟨17, .data⟩ (by simp) rfl
          refine wp_add64 3 3 (.tmp 31) (.const (.int .i64 2)) rfl Tryz.underlying3 (4 * (k : Int)) 2 (hv 17 31 (.int .i64 (4 * (k : Int))) (by rw [hVe]; simp) d17) rfl (by omega) (by omega) ?_
          exact ⟨hoff.put 32 _ (by simp), vals_put hV 18 32 _ (by omega) (by rw [hVe]; simp) (by rw [hVe]; simp), hm, n0, n1, v', fun h => ⟨(eval_put_ne a 32 45 _ (by decide)).trans (n2 h).1, (n2 h).2⟩, fun h => (eval_put_ne a 32 3 _ (by decide)).trans (n3 h), n4, fun h => (eval_put_ne a 32 3 _ (by decide)).trans (n5 h)⟩
        · obtain rfl := Option.some.inj ho
          have d15 : f 15 = true := hdep ⟨15, .data⟩ (by simp) rfl
          have d18 : f 18 = true := hdep ⟨18, .data⟩ (by simp) rfl
          refine wp_index_str 9 (.tmp 29) (.tmp 32) rfl _ _ (.int .u8 x2) (hv 15 29 (.string b) (by rw [hVe]; simp) d15) (hv 18 32 (.int .i64 (4 * (k : Int) + 2)) (by rw [hVe]; simp) d18) i2' ?_
          exact ⟨hoff.put 33 _ (by simp), vals_put hV 19 33 _ (by omega) (by rw [hVe]; simp) (by rw [hVe]; simp), hm, n0, n1, v', fun h => ⟨(eval_put_ne a 33 45 _ (by decide)).trans (n2 h).1, (n2 h).2⟩, fun h => (eval_put_ne a 33 3 _ (by decide)).trans (n3 h), n4, fun h => (eval_put_ne a 33 3 _ (by decide)).trans (n5 h)⟩
        · obtain rfl := Option.some.inj ho
          have d19 : f 19 = true := hdep ⟨19, .data⟩ (by simp) rfl
          refine wp_conv832 5 103 (.tmp 33) rfl Tryz.underlying5 Tryz.underlying103 x2 c2 (hv 19 33 (.int .u8 x2) (by rw [hVe]; simp) d19) ?_
          exact ⟨hoff.put 34 _ (by simp), vals_put hV 20 34 _ (by omega) (by rw [hVe]; simp) (by rw [hVe]; simp), hm, n0, n1, v', fun h => ⟨(eval_put_ne a 34 45 _ (by decide)).trans (n2 h).1, (n2 h).2⟩, fun h => (eval_put_ne a 34 3 _ (by decide)).trans (n3 h), n4, fun h => (eval_put_ne a 34 3 _ (by decide)).trans (n5 h)⟩
        · obtain rfl := Option.some.inj ho
          have d20 : f 20 = true := hdep ⟨20, .data⟩ (by simp) rfl
          refine wp_shlU32 103 101 (.tmp 34) (.const (.int .u64 8)) rfl Tryz.underlying103 x2 ((x2 : Int) * 256) 8 (by decide) (hv 20 34 (.int .u32 x2) (by rw [hVe]; simp) d20) rfl (by omega) ?_
          exact ⟨hoff.put 35 _ (by simp), vals_put hV 21 35 _ (by omega) (by rw [hVe]; simp) (by rw [hVe]; simp), hm, n0, n1, v', fun h => ⟨(eval_put_ne a 35 45 _ (by decide)).trans (n2 h).1, (n2 h).2⟩, fun h => (eval_put_ne a 35 3 _ (by decide)).trans (n3 h), n4, fun h => (eval_put_ne a 35 3 _ (by decide)).trans (n5 h)⟩
        · obtain rfl := Option.some.inj ho
          have d14 : f 14 = true := hdep ⟨14, .data⟩ (by simp) rfl
          have d21 : f 21 = true := hdep ⟨21, .data⟩ (by simp) rfl
          refine wp_addU32 103 103 (.tmp 28) (.tmp 35) rfl Tryz.underlying103 ((x0 : Int) * 16777216 + (x1 : Int) * 65536) ((x2 : Int) * 256) ((x0 : Int) * 16777216 + (x1 : Int) * 65536 + (x2 : Int) * 256) (hv 14 28 (.int .u32 ((x0 : Int) * 16777216 + (x1 : Int) * 65536)) (by rw [hVe]; simp) d14) (hv 21 35 (.int .u32 ((x2 : Int) * 256)) (by rw [hVe]; simp) d21) (by omega) ?_
          exact ⟨hoff.put 36 _ (by simp), vals_put hV 22 36 _ (by omega) (by rw [hVe]; simp) (by rw [hVe]; simp), hm, n0, n1, v', fun h => ⟨(eval_put_ne a 36 45 _ (by decide)).trans (n2 h).1, (n2 h).2⟩, fun h => (eval_put_ne a 36 3 _ (by decide)).trans (n3 h), n4, fun h => (eval_put_ne a 36 3 _ (by decide)).trans (n5 h)⟩
        · obtain rfl := Option.some.inj ho
          refine wp_move (.tmp 0) rfl ?_
          rw [((hoff.eval 0 (by simp)).trans hA0)]
          exact ⟨hoff.put 37 _ (by simp), vals_put hV 23 37 _ (by omega) (by rw [hVe]; simp) (by rw [hVe]; simp), hm, n0, n1, v', fun h => ⟨(eval_put_ne a 37 45 _ (by decide)).trans (n2 h).1, (n2 h).2⟩, fun h => (eval_put_ne a 37 3 _ (by decide)).trans (n3 h), n4, fun h => (eval_put_ne a 37 3 _ (by decide)).trans (n5 h)⟩
        · obtain rfl := Option.some.inj ho
          refine wp_move (.tmp 4) rfl ?_
          rw [((hoff.eval 4 (by simp)).trans hA4)]
          exact ⟨hoff.put 38 _ (by simp), vals_put hV 24 38 _ (by omega) (by rw [hVe]; simp) (by rw [hVe]; simp), hm, n0, n1, v', fun h => ⟨(eval_put_ne a 38 45 _ (by decide)).trans (n2 h).1, (n2 h).2⟩, fun h => (eval_put_ne a 38 3 _ (by decide)).trans (n3 h), n4, fun h => (eval_put_ne a 38 3 _ (by decide)).trans (n5 h)⟩
        · obtain rfl := Option.some.inj ho
          have d24 : f 24 = true := hdep ⟨24, .data⟩ (by simp) rfl
          refine wp_mul64 3 3 (.const (.int .i64 4)) (.tmp 38) rfl Tryz.underlying3 4 k rfl (hv 24 38 (.int .i64 k) (by rw [hVe]; simp) d24) (by omega) (by omega) ?_
          exact ⟨hoff.put 39 _ (by simp), vals_put hV 25 39 _ (by omega) (by rw [hVe]; simp) (by rw [hVe]; simp), hm, n0, n1, v', fun h => ⟨(eval_put_ne a 39 45 _ (by decide)).trans (n2 h).1, (n2 h).2⟩, fun h => (eval_put_ne a 39 3 _ (by decide)).trans (n3 h), n4, fun h => (eval_put_ne a 39 3 _ (by decide)).trans (n5 h)⟩
        · obtain rfl := Option.some.inj ho
          have d25 : f 25 = true := hdep ⟨25, .data⟩ (by simp) rfl
          refine wp_add64 3 3 (.tmp 39) (.const (.int .i64 3)) rfl Tryz.underlying3 (4 * (k : Int)) 3 (hv 25 39 (.int .i64 (4 * (k : Int))) (by rw [hVe]; simp) d25) rfl (by omega) (by omega) ?_
          exact ⟨hoff.put 40 _ (by simp), vals_put hV 26 40 _ (by omega) (by rw [hVe]; simp) (by rw [hVe]; simp), hm, n0, n1, v', fun h => ⟨(eval_put_ne a 40 45 _ (by decide)).trans (n2 h).1, (n2 h).2⟩, fun h => (eval_put_ne a 40 3 _ (by decide)).trans (n3 h), n4, fun h => (eval_put_ne a 40 3 _ (by decide)).trans (n5 h)⟩
        · obtain rfl := Option.some.inj ho
          have d23 : f 23 = true := hdep ⟨23, .data⟩ (by simp) rfl
          have d26 : f 26 = true := hdep ⟨26, .data⟩ (by simp) rfl
          refine wp_index_str 9 (.tmp 37) (.tmp 40) rfl _ _ (.int .u8 x3) (hv 23 37 (.string b) (by rw [hVe]; simp) d23) (hv 26 40 (.int .i64 (4 * (k : Int) + 3)) (by rw [hVe]; simp) d26) i3' ?_
          exact ⟨hoff.put 41 _ (by simp), vals_put hV 27 41 _ (by omega) (by rw [hVe]; simp) (by rw [hVe]; simp), hm, n0, n1, v', fun h => ⟨(eval_put_ne a 41 45 _ (by decide)).trans (n2 h).1, (n2 h).2⟩, fun h => (eval_put_ne a 41 3 _ (by decide)).trans (n3 h), n4, fun h => (eval_put_ne a 41 3 _ (by decide)).trans (n5 h)⟩
        · obtain rfl := Option.some.inj ho
          have d27 : f 27 = true := hdep ⟨27, .data⟩ (by simp) rfl
          refine wp_conv832 5 103 (.tmp 41) rfl Tryz.underlying5 Tryz.underlying103 x3 c3 (hv 27 41 (.int .u8 x3) (by rw [hVe]; simp) d27) ?_
          exact ⟨hoff.put 42 _ (by simp), vals_put hV 28 42 _ (by omega) (by rw [hVe]; simp) (by rw [hVe]; simp), hm, n0, n1, v', fun h => ⟨(eval_put_ne a 42 45 _ (by decide)).trans (n2 h).1, (n2 h).2⟩, fun h => (eval_put_ne a 42 3 _ (by decide)).trans (n3 h), n4, fun h => (eval_put_ne a 42 3 _ (by decide)).trans (n5 h)⟩
        · obtain rfl := Option.some.inj ho
          have d22 : f 22 = true := hdep ⟨22, .data⟩ (by simp) rfl
          have d28 : f 28 = true := hdep ⟨28, .data⟩ (by simp) rfl
          refine wp_addU32 103 103 (.tmp 36) (.tmp 42) rfl Tryz.underlying103 ((x0 : Int) * 16777216 + (x1 : Int) * 65536 + (x2 : Int) * 256) (x3) ((x0 : Int) * 16777216 + (x1 : Int) * 65536 + (x2 : Int) * 256 + x3) (hv 22 36 (.int .u32 ((x0 : Int) * 16777216 + (x1 : Int) * 65536 + (x2 : Int) * 256)) (by rw [hVe]; simp) d22) (hv 28 42 (.int .u32 x3) (by rw [hVe]; simp) d28) (by omega) ?_
          exact ⟨hoff.put 43 _ (by simp), vals_put hV 29 43 _ (by omega) (by rw [hVe]; simp) (by rw [hVe]; simp), hm, n0, n1, v', fun h => ⟨(eval_put_ne a 43 45 _ (by decide)).trans (n2 h).1, (n2 h).2⟩, fun h => (eval_put_ne a 43 3 _ (by decide)).trans (n3 h), n4, fun h => (eval_put_ne a 43 3 _ (by decide)).trans (n5 h)⟩
        · obtain rfl := Option.some.inj ho
          have d29 : f 29 = true := hdep ⟨29, .data⟩ (by simp) rfl
          have f31 : f 31 = false := by
            cases hf : f 31 with
            | false => rfl
            | true => exact absurd (hm hf).1 (by rw [hfi]; simp)
          have hW := n0 hfi
          subst hW
          refine wp_buildR 102 1 #[(0, .tmp 43)] rfl #[(0, .int .u32 ((x0 : Int) * 16777216 + (x1 : Int) * 65536 + (x2 : Int) * 256 + x3))] (by simp [hv 29 43 (.int .u32 ((x0 : Int) * 16777216 + (x1 : Int) * 65536 + (x2 : Int) * 256 + x3)) (by rw [hVe]; simp) d29]) _ _ (build32_1 _ _) ?_
          exact ⟨hoff.put 44 _ (by simp), vals_put hV 30 44 _ (by omega) (by rw [hVe]; simp) (by rw [hVe]; simp), fun h => absurd h (by show ¬ f 31 = true; rw [f31]; simp), fun h => (by cases h), fun _ _ => rfl, v', fun h => absurd h (by show ¬ f 31 = true; rw [f31]; simp), fun h => (eval_put_ne a 44 3 _ (by decide)).trans (n3 h), n4, fun h => (eval_put_ne a 44 3 _ (by decide)).trans (n5 h)⟩
        · obtain rfl := Option.some.inj ho
          have d0 : f 0 = true := hdep ⟨0, .data⟩ (by simp) rfl
          have d30 : f 30 = true := hdep ⟨30, .data⟩ (by simp) rfl
          have f32 : f 32 = false := by
            cases hf : f 32 with
            | false => rfl
            | true => exact absurd (n4 hf) (by rw [hfi]; simp)
          have hW := n1 d30 hfi
          subst hW
          refine wp_append_own _ (.tmp 14) (.tmp 44) 102 rfl w.heap.size 103 i0 (.int .u32 0) 1 4 Tryz.undW hi hz0 hz1 hz2 rfl (by decide) (.slice ao k cap) k _ (hv 0 14 (.slice ao k cap) (by rw [hVe]; simp) d0) ((unhide HOW).alloc _) ⟨W0.heap.size, 0, none⟩ 1 1 [.int .u32 ((x0 : Int) * 16777216 + (x1 : Int) * 65536 + (x2 : Int) * 256 + x3)] (hv 30 44 (.slice (some ⟨W0.heap.size, 0, none⟩) 1 1) (by rw [hVe]; simp) d30) (by rfl) (news_lit _ [_] _) (by intro u hu; simp at hu; subst hu; rfl) (by unfold maxLen; omega) (by omega) (by simp; have := hzW; omega) ?_
          intro v2 w3 hown' hgrow _
          exact ⟨hoff.put 45 _ (by simp), vals_put hV 31 45 _ (by omega) (by rw [hVe]; simp) (by rw [hVe]; simp), fun _ => ⟨d30, d0⟩, fun h => absurd h (by show ¬ f 30 = false; rw [d30]; simp), fun _ h => (by cases h), v2, fun _ => ⟨eval_put_same a 45 _ (by omega), hown', ((unhide HBW).alloc hzW _).grown hgrow (by simp; have := hzW; omega) (fun k hk => (((unhide HOW).lt k hk).1))⟩, fun h => absurd h (by show ¬ f 32 = true; rw [f32]; simp), fun h => absurd h (by show ¬ f 32 = true; rw [f32]; simp), fun h => (eval_put_ne a 45 3 _ (by decide)).trans (n5 h)⟩
        · obtain rfl := Option.some.inj ho
          have d31 : f 31 = true := hdep ⟨31, .data⟩ (by simp) rfl
          refine wp_assign (.tmp 45) rfl ?_
          rw [(n2 d31).1]
          exact ⟨hoff.put 3 _ (by simp), vals_put hV 32 3 _ (by omega) (by rw [hVe]; simp) (by rw [hVe]; simp), hm, n0, n1, v', fun h => ⟨(eval_put_ne a 3 45 _ (by decide)).trans (n2 h).1, (n2 h).2⟩, fun _ => eval_put_same a 3 _ (by omega), fun _ => d31, fun h => (by cases h)⟩
        · simp at ho
      case fin =>
        rintro f a w3 ⟨hoff, hV, hm, n0, n1, v', n2, n3, n4, n5⟩ hall
        have e := Off.all _ _ hoff
        obtain ⟨e45, hown', hb0⟩ := n2 (hall 31 (by decide))
        have e3 := n3 (hall 32 (by decide))
        simp only [List.foldl_cons, List.foldl_nil] at e
        rw [← hA, e3] at e
        generalize a.eval (.tmp 14) = y14, a.eval (.tmp 15) = y15, a.eval (.tmp 16) = y16, a.eval (.tmp 17) = y17, a.eval (.tmp 18) = y18, a.eval (.tmp 19) = y19, a.eval (.tmp 20) = y20, a.eval (.tmp 21) = y21, a.eval (.tmp 22) = y22, a.eval (.tmp 23) = y23, a.eval (.tmp 24) = y24, a.eval (.tmp 25) = y25, a.eval (.tmp 26) = y26, a.eval (.tmp 27) = y27, a.eval (.tmp 28) = y28, a.eval (.tmp 29) = y29, a.eval (.tmp 30) = y30, a.eval (.tmp 31) = y31, a.eval (.tmp 32) = y32, a.eval (.tmp 33) = y33, a.eval (.tmp 34) = y34, a.eval (.tmp 35) = y35, a.eval (.tmp 36) = y36, a.eval (.tmp 37) = y37, a.eval (.tmp 38) = y38, a.eval (.tmp 39) = y39, a.eval (.tmp 40) = y40, a.eval (.tmp 41) = y41, a.eval (.tmp 42) = y42, a.eval (.tmp 43) = y43, a.eval (.tmp 44) = y44, a.eval (.tmp 45) = y45 at e
        simp only [Act.put, List.setIfInBounds_toArray, List.set_cons_succ, List.set_cons_zero] at e
        subst e
        have hb' := hide hb0
        have ho2 : Hid (w3.ownsRow w.heap.size 103 1 v' (k + 1) (uc ((schedN b.data.toList 0).take (k + 1)))) := by
          show World.ownsRow _ _ _ _ _ _ _
          rw [unhide htk, uc_append, show uc [wpart b.data.toList 64 k] = [.int .u32 ((x0 : Int) * 16777216 + (x1 : Int) * 65536 + (x2 : Int) * 256 + x3)] by simp [uc, unhide hv]]
          exact hown'
        obtain ⟨ao', cap', rfl⟩ := own_shape' hown'
        clear hown' HO HBB hoff hV hA hA0 hA3 hA4 hVe n0 n1 n2 n3 n4 n5 hm e45 e3 hb0 HOW HBW hW0
        go_wp2
        go_roundw
        case rel => exact ⟨k + 1, by omega, by go_num, unhide ho2, unhide hb'⟩
        case measure => simp [intOf]; omega
    · have hke : k = 16 := by omega
      have HK := hide hke
      rw [List.take_of_length_le (by rw [schedN_length]; omega)] at HO
      have hk16 : ¬ (k : Int) < 16 := by omega
      clear hlt hk hke
      go_wp2
      clear hk16
      go_loopw [3, 5] (fun v i wr => ∃ n t : Nat, n ≤ 48 ∧ t = 16 + n ∧ i = .int .i64 t ∧ wr.ownsRow w.heap.size 103 1 v t (uc (schedN b.data.toList n)) ∧ Below w.heap.size w wr) (fun _ i _ => 64 - (intOf i).toNat)
      case atStart => exact ⟨0, 16, Nat.zero_le _, rfl, rfl, by have h := unhide HO; have e := unhide HK; subst e; exact h, unhide HBB⟩
      case round =>
        clear HO HBB hz
        obtain ⟨n, t, hn, ht, rfl, hown, hb⟩ := hrel
        obtain ⟨g, cap', rfl, hg1, hg2, hc⟩ := own_words hown (by omega)
        have hz := hb.size
        have HO := hide hown
        have HBB := hide hb
        clear hown hb
        by_cases hlt : n < 48
        · have hl := schedN_length b.data.toList n
          have gx : ∀ j, j < 16 + n → wr.cell? ⟨g, j, none⟩ = some (.int .u32 (n32 ((schedN b.data.toList n).getD j 0))) := by
            intro j hj
            rw [hc j (by omega), getD_of_lt _ _ (by omega)]
          have e15 := gx (t - 15) (by omega)
          have e2 := gx (t - 2) (by omega)
          have e7 := gx (t - 7) (by omega)
          have e16 := gx (t - 16) (by omega)
          have HT := hide ht
          have hnx : Hid (nextW (schedN b.data.toList n) = s1 ((schedN b.data.toList n).getD (t - 2) 0) + (schedN b.data.toList n).getD (t - 7) 0 + s0 ((schedN b.data.toList n).getD (t - 15) 0) + (schedN b.data.toList n).getD (t - 16) 0) := by
            show _ = _
            unfold nextW
            rw [hl, ← ht]
          have t0 : (16 : Int) ≤ t := by omega
          have t9 : (t : Int) < 64 := by omega
          have t02 : (2 : Int) ≤ t := by omega
          have t07 : (7 : Int) ≤ t := by omega
          have t015 : (15 : Int) ≤ t := by omega
          generalize (schedN b.data.toList n).getD (t - 15) 0 = x15 at *
          generalize (schedN b.data.toList n).getD (t - 2) 0 = x2 at *
          generalize (schedN b.data.toList n).getD (t - 7) 0 = x7 at *
          generalize (schedN b.data.toList n).getD (t - 16) 0 = x16 at *
          clear gx hl ht hc
          go_wp2_with (go_at_call 112; refine (rrotr_j _ _ _ (by decide) (by decide)).mono ?_; rintro e w' ⟨rfl, rfl⟩)
          obtain ⟨t7, ht7⟩ : ∃ t7, t7 = t - 7 := ⟨_, rfl⟩
          obtain ⟨t16, ht16⟩ : ∃ t16, t16 = t - 16 := ⟨_, rfl⟩
          rw [← ht7] at e7
          rw [← ht16] at e16
          have w7 : IntKind.i64.wrap ((t : Int) - 7) = t7 := by rw [wrapI _ (by omega) (by omega)]; omega
          have w16 : IntKind.i64.wrap ((t : Int) - 16) = t16 := by rw [wrapI _ (by omega) (by omega)]; omega
          have b7 : (t7 : Int) < t := by omega
          have b16 : (t16 : Int) < t := by omega
          have n7 : t7 < t := by omega
          have n16 : t16 < t := by omega
          clear ht7 ht16
          go_region_law ((refine step_append_own rfl (.tmp 76) (.tmp 92) 102 rfl w.heap.size 103 i0 (.int .u32 0) 1 4 Tryz.undW hi hz0 hz1 hz2 rfl (by decide) (.slice (some ⟨g, 0, none⟩) t cap') t _ (by rfl) ((unhide HO).alloc _) ⟨wr.heap.size, 0, none⟩ 1 1 [.int .u32 (n32 ((rot x2 17 ^^^ rot x2 19 ^^^ x2 >>> 10) + x7 + (rot x15 7 ^^^ rot x15 18 ^^^ x15 >>> 3) + x16))] (by rfl) (by rfl) (news_lit _ [_] _) (by intro u hu; simp at hu; subst hu; rfl) (by unfold maxLen; omega) (by omega) (by simp; omega) ?_; intro v' w3 hown' hgrow))
          all_goals
            have hb' := hide ((((unhide HBB).alloc (by omega) _).drew).grown hgrow (by simp; omega) (fun k hk => (((unhide HO).lt k hk).1)))
            have ho2 : Hid (w3.ownsRow w.heap.size 103 1 v' (t + 1) (uc (schedN b.data.toList (n + 1)))) := by
              show World.ownsRow _ _ _ _ _ _ _
              rw [show schedN b.data.toList (n + 1) = schedN b.data.toList n ++ [nextW (schedN b.data.toList n)] from rfl, uc_append, unhide hnx]
              exact hown'
            obtain ⟨ao', cap'', rfl⟩ := own_shape' hown'
            clear hown' hgrow HO HBB e15 e2 e7 e16
            go_wp2
            go_roundw
            case rel => exact ⟨n + 1, t + 1, by omega, by rw [unhide HT]; omega, by go_num, unhide ho2, unhide hb'⟩
            case measure => simp [intOf]; omega
        · have hne : n = 48 := by omega
          subst hne
          subst ht
          go_wp2
          go_ret
          exact ⟨_, rfl, unhide HO, unhide HBB⟩

end Go.Proofs.YtkcnihngkmaecaaGreat
namespace Go.Proofs.YtkcnihngkmaecaaGreat
open Go.RowKit
set_option linter.unusedVariables false
attribute [local go_sem] xor32 and32 or32 add32 not32 not32'

theorem rMix_quiet (x : UInt32) (n : Int) (w : World) (a m : Nat) (h1 : 1 ≤ n) (h2 : n ≤ 31) : Calls Tryz.prog 112 #[.int .u32 (n32 x), .int .u64 n] (w.drewN (a + m)) fun e w'' => e = .returned (.int .u32 (n32 (rot x n.toNat))) ∧ ∃ m', w'' = w.drewN (a + m') := quiet_same2 (rrotr_i x n _ h1 h2)

set_option maxHeartbeats 4000000 in
set_option maxRecDepth 100000 in
theorem rMix_any (s : S8) (b : ByteArray) (hb : b.size = 64) (g cap : Nat) (ty : TypeId) (w : World) (hS : WordsAt w g ty s.list) :
    Calls Tryz.prog 106 #[.slice (some ⟨g, 0, none⟩) 8 cap, .string b] w fun e w' => ∃ g', e = .returned (.slice (some ⟨g', 0, none⟩) 8 8) ∧ WordsAt w' g' 103 (mix s b.data.toList).list ∧ w.heap.size ≤ g' ∧ Below w.heap.size w w' := by
  have hwd := hide (rWords_any b hb w)
  obtain ⟨W, hW⟩ : ∃ W, W = sched b.data.toList := ⟨_, rfl⟩
  have hWl : W.length = 64 := by rw [hW]; unfold sched; rw [schedN_length]
  rw [← hW] at hwd
  have HW := hide hW
  have HS := hide hS
  have HB := hide hb
  clear hW hS hb
  go_enter Tryz.func106, Tryz.ntmps106
  go_wp2_with fail
  refine (unhide hwd).mono ?_
  rintro e w1 ⟨v1, rfl, hown, b1⟩
  obtain ⟨g1, cap1, rfl, hg1, hg1', hc1⟩ := own_words hown (by omega)
  have B1 := hide b1
  have S1 : Hid (WordsAt w1 g ty s.list) := (b1.block _ (unhide HS).lt).trans (unhide HS)
  clear hown b1 hwd
  go_wp2_with fail
  refine (rK_any w1).mono ?_
  rintro e w2 ⟨rfl, hK, b2⟩
  have hS2 : WordsAt w2 g ty s.list := (b2.block _ (unhide S1).lt).trans (unhide S1)
  have hc2 : ∀ j, (hj : j < W.length) → w2.cell? ⟨g1, j, none⟩ = some (.int .u32 (n32 W[j])) := by
    intro j hj
    rw [← hc1 j hj]
    exact b2.cell hg1'
  have B2 := hide ((unhide B1).trans (b2.mono (unhide B1).size))
  clear hc1 b2 B1 S1 HS
  generalize w1.heap.size = g2 at *
  have hN := hide hS2
  have c0 := hS2.cell 0 (by simp [S8.list])
  have c1 := hS2.cell 1 (by simp [S8.list])
  have c2 := hS2.cell 2 (by simp [S8.list])
  have c3 := hS2.cell 3 (by simp [S8.list])
  have c4 := hS2.cell 4 (by simp [S8.list])
  have c5 := hS2.cell 5 (by simp [S8.list])
  have c6 := hS2.cell 6 (by simp [S8.list])
  have c7 := hS2.cell 7 (by simp [S8.list])
  simp only [S8.list, List.getElem_cons_zero, List.getElem_cons_succ] at c0 c1 c2 c3 c4 c5 c6 c7
  have HC2 := hide hc2
  have HK := hide hK
  clear hS2 hc2 hK
  go_wp2
  go_big_quiet (fail)
  go_wp2
  go_big_quiet (fail)
  go_wp2
  clear c0 c1 c2 c3 c4 c5 c6 c7
  go_loopw [7, 8, 9, 10, 11, 12, 13, 14, 15] (fun xa xb xc xd xe xf xg xh i wr => ∃ t : Nat, t ≤ 64 ∧ i = .int .i64 t ∧ (∃ m, wr = w2.drewN m) ∧ xa = .int .u32 (n32 (rnds W s t).a) ∧ xb = .int .u32 (n32 (rnds W s t).b) ∧ xc = .int .u32 (n32 (rnds W s t).c) ∧ xd = .int .u32 (n32 (rnds W s t).d) ∧ xe = .int .u32 (n32 (rnds W s t).e) ∧ xf = .int .u32 (n32 (rnds W s t).f) ∧ xg = .int .u32 (n32 (rnds W s t).g) ∧ xh = .int .u32 (n32 (rnds W s t).h)) (fun _ _ _ _ _ _ _ _ i _ => 64 - (intOf i).toNat)
  case atStart => exact ⟨0, by omega, rfl, ⟨_, World.drewN_drewN _ _ _⟩, rfl, rfl, rfl, rfl, rfl, rfl, rfl, rfl⟩
  case round =>
    obtain ⟨t, ht, rfl, ⟨m, rfl⟩, rfl, rfl, rfl, rfl, rfl, rfl, rfl, rfl⟩ := hrel
    by_cases hlt : t < 64
    · have cK : w2.cell? ⟨g2, t, none⟩ = some (.int .u32 (n32 (KK.getD t 0))) := by
        rw [(unhide HK).cell t (by rw [show KK.length = 64 from rfl]; exact hlt)]
        rw [getD_of_lt _ _ (by rw [show KK.length = 64 from rfl]; exact hlt)]
      have cW : w2.cell? ⟨g1, t, none⟩ = some (.int .u32 (n32 (W.getD t 0))) := by
        rw [unhide HC2 t (by omega), getD_of_lt _ _ (by omega)]
      have hst : Hid (rnds W s (t + 1) = rnd (rnds W s t) (KK.getD t 0) (W.getD t 0)) := rfl
      generalize KK.getD t 0 = kt at *
      generalize W.getD t 0 = wt at *
      generalize rnds W s t = r at *
      have t0 : (0 : Int) ≤ t := by omega
      have t9 : (t : Int) < 64 := by omega
      go_wp2
      go_big_quiet ((go_at_call 112; exact quiet_same2 (rrotr_i _ _ _ (by decide) (by decide))))
      go_wp2_with (go_at_call 112; refine (rrotr_j _ _ _ (by decide) (by decide)).mono ?_; rintro e w' ⟨rfl, rfl⟩)
      go_roundw
      case rel => exact ⟨t + 1, by omega, by go_num, ⟨_, rfl⟩, by rw [unhide hst, add32]; rfl, by rw [unhide hst]; rfl, by rw [unhide hst]; rfl, by rw [unhide hst]; rfl, by rw [unhide hst, add32]; rfl, by rw [unhide hst]; rfl, by rw [unhide hst]; rfl, by rw [unhide hst]; rfl⟩
      case measure => simp [intOf]; omega
    · have ht64 : t = 64 := by omega
      subst ht64
      have hmx : Hid (mix s b.data.toList = s.add (rnds W s 64)) := by show _ = _; unfold mix; rw [unhide HW]
      generalize rnds W s 64 = x at *
      have HSD0 : Hid (WordsAt (w2.drewN m).drew g ty s.list) := unhide hN
      have HBD0 : Hid (Below w.heap.size w (w2.drewN m).drew) := (below_drewN (unhide B2) m).drew
      clear hN B2 HC2 HK HW HB hlt ht
      go_wp2
      generalize hwd : (w2.drewN m).drew = wd at *
      have HSD := HSD0
      have HBD := HBD0
      clear HSD0 HBD0
      generalize hA : Act.mk _ _ = A
      have hAs : A.tmps.size = 151 := by rw [← hA]; rfl
      have hA0 : A.eval (.tmp 0) = .slice (some ⟨g, 0, none⟩) 8 cap := by rw [← hA]; rfl
      have hA7 : A.eval (.tmp 7) = .int .u32 (n32 x.a) := by rw [← hA]; rfl
      have hA8 : A.eval (.tmp 8) = .int .u32 (n32 x.b) := by rw [← hA]; rfl
      have hA9 : A.eval (.tmp 9) = .int .u32 (n32 x.c) := by rw [← hA]; rfl
      have hA10 : A.eval (.tmp 10) = .int .u32 (n32 x.d) := by rw [← hA]; rfl
      have hA11 : A.eval (.tmp 11) = .int .u32 (n32 x.e) := by rw [← hA]; rfl
      have hA12 : A.eval (.tmp 12) = .int .u32 (n32 x.f) := by rw [← hA]; rfl
      have hA13 : A.eval (.tmp 13) = .int .u32 (n32 x.g) := by rw [← hA]; rfl
      have hA14 : A.eval (.tmp 14) = .int .u32 (n32 x.h) := by rw [← hA]; rfl
      obtain ⟨V, hVe⟩ : ∃ V : List (Nat × Nat × Value), V = [(0, 110, .slice (some ⟨g, 0, none⟩) 8 cap), (1, 111, .pointer (some ⟨g, 0, none⟩)), (2, 112, .int .u32 (n32 s.a)), (3, 113, .int .u32 (n32 x.a)), (4, 114, .int .u32 (n32 (s.a + x.a))), (5, 115, .slice (some ⟨g, 0, none⟩) 8 cap), (6, 116, .pointer (some ⟨g, 1, none⟩)), (7, 117, .int .u32 (n32 s.b)), (8, 118, .int .u32 (n32 x.b)), (9, 119, .int .u32 (n32 (s.b + x.b))), (10, 120, .slice (some ⟨g, 0, none⟩) 8 cap), (11, 121, .pointer (some ⟨g, 2, none⟩)), (12, 122, .int .u32 (n32 s.c)), (13, 123, .int .u32 (n32 x.c)), (14, 124, .int .u32 (n32 (s.c + x.c))), (15, 125, .slice (some ⟨g, 0, none⟩) 8 cap), (16, 126, .pointer (some ⟨g, 3, none⟩)), (17, 127, .int .u32 (n32 s.d)), (18, 128, .int .u32 (n32 x.d)), (19, 129, .int .u32 (n32 (s.d + x.d))), (20, 130, .slice (some ⟨g, 0, none⟩) 8 cap), (21, 131, .pointer (some ⟨g, 4, none⟩)), (22, 132, .int .u32 (n32 s.e)), (23, 133, .int .u32 (n32 x.e)), (24, 134, .int .u32 (n32 (s.e + x.e))), (25, 135, .slice (some ⟨g, 0, none⟩) 8 cap), (26, 136, .pointer (some ⟨g, 5, none⟩)), (27, 137, .int .u32 (n32 s.f)), (28, 138, .int .u32 (n32 x.f)), (29, 139, .int .u32 (n32 (s.f + x.f))), (30, 140, .slice (some ⟨g, 0, none⟩) 8 cap), (31, 141, .pointer (some ⟨g, 6, none⟩)), (32, 142, .int .u32 (n32 s.g)), (33, 143, .int .u32 (n32 x.g)), (34, 144, .int .u32 (n32 (s.g + x.g))), (35, 145, .slice (some ⟨g, 0, none⟩) 8 cap), (36, 146, .pointer (some ⟨g, 7, none⟩)), (37, 147, .int .u32 (n32 s.h)), (38, 148, .int .u32 (n32 x.h)), (39, 149, .int .u32 (n32 (s.h + x.h))), (40, 150, .slice (some ⟨wd.heap.size, 0, none⟩) 8 8), (41, 4, .slice (some ⟨wd.heap.size, 0, none⟩) 8 8)] := ⟨_, rfl⟩
      refine wp_region_invB0 (by kernel_rfl) (by kernel_rfl) (by kernel_rfl) (fun f a wx => Off [4, 110, 111, 112, 113, 114, 115, 116, 117, 118, 119, 120, 121, 122, 123, 124, 125, 126, 127, 128, 129, 130, 131, 132, 133, 134, 135, 136, 137, 138, 139, 140, 141, 142, 143, 144, 145, 146, 147, 148, 149, 150] A a ∧ ValsOk V f a ∧ (f 41 = true → f 40 = true) ∧ (f 40 = false → wx = wd) ∧ (f 40 = true → wx = wd.alloc (.cells #[.int .u32 (n32 (s.a + x.a)), .int .u32 (n32 (s.b + x.b)), .int .u32 (n32 (s.c + x.c)), .int .u32 (n32 (s.d + x.d)), .int .u32 (n32 (s.e + x.e)), .int .u32 (n32 (s.f + x.f)), .int .u32 (n32 (s.g + x.g)), .int .u32 (n32 (s.h + x.h))] 103))) ?start ?step ?fin
      case start => exact ⟨Off.refl _ _, vals_start _ _, by simp, fun _ => hwd, by simp⟩
      case step =>
        rintro f a wx i o ⟨hoff, hV, hm, n0, n1⟩ ho hfi hdep
        have has : a.tmps.size = 151 := hoff.size.trans hAs
        have hw : WordsAt wx g ty s.list := by
          cases hf : f 40 with
          | false => rw [n0 hf]; exact unhide HSD
          | true => rw [n1 hf]; exact (unhide HSD).alloc _
        have hv := fun (i d : Nat) (v : Value) (hm : (i, d, v) ∈ V) (hf : f i = true) => hV (i, d, v) hm hf
        rcases i with _ | _ | _ | _ | _ | _ | _ | _ | _ | _ | _ | _ | _ | _ | _ | _ | _ | _ | _ | _ | _ | _ | _ | _ | _ | _ | _ | _ | _ | _ | _ | _ | _ | _ | _ | _ | _ | _ | _ | _ | _ | _ | i
        · obtain rfl := Option.some.inj ho
          refine wp_move (.tmp 0) rfl ?_
          rw [((hoff.eval 0 (by simp)).trans hA0)]
          exact ⟨hoff.put 110 _ (by simp), vals_put hV 0 110 _ (by omega) (by rw [hVe]; simp) (by rw [hVe]; simp), hm, n0, n1⟩
        · obtain rfl := Option.some.inj ho
          have d0 : f 0 = true := hdep ⟨0, .data⟩ (by simp) rfl
          refine wp_indexAddr 102 (.tmp 110) (.const (.int .i64 0)) rfl _ _ (.pointer (some ⟨g, 0, none⟩)) (hv 0 110 (.slice (some ⟨g, 0, none⟩) 8 cap) (by rw [hVe]; simp) d0) rfl (iaddr32 g 0 8 cap 0 rfl (by decide)) ?_
          exact ⟨hoff.put 111 _ (by simp), vals_put hV 1 111 _ (by omega) (by rw [hVe]; simp) (by rw [hVe]; simp), hm, n0, n1⟩
        · obtain rfl := Option.some.inj ho
          have d1 : f 1 = true := hdep ⟨1, .data⟩ (by simp) rfl
          refine wp_load1 103 (.tmp 111) rfl _ (.int .u32 (n32 s.a)) (hv 1 111 (.pointer (some ⟨g, 0, none⟩)) (by rw [hVe]; simp) d1) (load32 _ _ _ (hw.cell 0 (by simp [S8.list]))) ?_
          exact ⟨hoff.put 112 _ (by simp), vals_put hV 2 112 _ (by omega) (by rw [hVe]; simp) (by rw [hVe]; simp), hm, n0, n1⟩
        · obtain rfl := Option.some.inj ho
          refine wp_move (.tmp 7) rfl ?_
          rw [((hoff.eval 7 (by simp)).trans hA7)]
          exact ⟨hoff.put 113 _ (by simp), vals_put hV 3 113 _ (by omega) (by rw [hVe]; simp) (by rw [hVe]; simp), hm, n0, n1⟩
        · obtain rfl := Option.some.inj ho
          have d2 : f 2 = true := hdep ⟨2, .data⟩ (by simp) rfl
          have d3 : f 3 = true := hdep ⟨3, .data⟩ (by simp) rfl
          refine wp_addU32 103 103 (.tmp 112) (.tmp 113) rfl Tryz.underlying103 (n32 s.a) (n32 x.a) (n32 (s.a + x.a)) (hv 2 112 (.int .u32 (n32 s.a)) (by rw [hVe]; simp) d2) (hv 3 113 (.int .u32 (n32 x.a)) (by rw [hVe]; simp) d3) (add32 _ _) ?_
          exact ⟨hoff.put 114 _ (by simp), vals_put hV 4 114 _ (by omega) (by rw [hVe]; simp) (by rw [hVe]; simp), hm, n0, n1⟩
        · obtain rfl := Option.some.inj ho
          refine wp_move (.tmp 0) rfl ?_
          rw [((hoff.eval 0 (by simp)).trans hA0)]
          exact ⟨hoff.put 115 _ (by simp), vals_put hV 5 115 _ (by omega) (by rw [hVe]; simp) (by rw [hVe]; simp), hm, n0, n1⟩
        · obtain rfl := Option.some.inj ho
          have d5 : f 5 = true := hdep ⟨5, .data⟩ (by simp) rfl
          refine wp_indexAddr 102 (.tmp 115) (.const (.int .i64 1)) rfl _ _ (.pointer (some ⟨g, 1, none⟩)) (hv 5 115 (.slice (some ⟨g, 0, none⟩) 8 cap) (by rw [hVe]; simp) d5) rfl (iaddr32 g 1 8 cap 1 rfl (by decide)) ?_
          exact ⟨hoff.put 116 _ (by simp), vals_put hV 6 116 _ (by omega) (by rw [hVe]; simp) (by rw [hVe]; simp), hm, n0, n1⟩
        · obtain rfl := Option.some.inj ho
          have d6 : f 6 = true := hdep ⟨6, .data⟩ (by simp) rfl
          refine wp_load1 103 (.tmp 116) rfl _ (.int .u32 (n32 s.b)) (hv 6 116 (.pointer (some ⟨g, 1, none⟩)) (by rw [hVe]; simp) d6) (load32 _ _ _ (hw.cell 1 (by simp [S8.list]))) ?_
          exact ⟨hoff.put 117 _ (by simp), vals_put hV 7 117 _ (by omega) (by rw [hVe]; simp) (by rw [hVe]; simp), hm, n0, n1⟩
        · obtain rfl := Option.some.inj ho
          refine wp_move (.tmp 8) rfl ?_
          rw [((hoff.eval 8 (by simp)).trans hA8)]
          exact ⟨hoff.put 118 _ (by simp), vals_put hV 8 118 _ (by omega) (by rw [hVe]; simp) (by rw [hVe]; simp), hm, n0, n1⟩
        · obtain rfl := Option.some.inj ho
          have d7 : f 7 = true := hdep ⟨7, .data⟩ (by simp) rfl
          have d8 : f 8 = true := hdep ⟨8, .data⟩ (by simp) rfl
          refine wp_addU32 103 103 (.tmp 117) (.tmp 118) rfl Tryz.underlying103 (n32 s.b) (n32 x.b) (n32 (s.b + x.b)) (hv 7 117 (.int .u32 (n32 s.b)) (by rw [hVe]; simp) d7) (hv 8 118 (.int .u32 (n32 x.b)) (by rw [hVe]; simp) d8) (add32 _ _) ?_
          exact ⟨hoff.put 119 _ (by simp), vals_put hV 9 119 _ (by omega) (by rw [hVe]; simp) (by rw [hVe]; simp), hm, n0, n1⟩
        · obtain rfl := Option.some.inj ho
          refine wp_move (.tmp 0) rfl ?_
          rw [((hoff.eval 0 (by simp)).trans hA0)]
          exact ⟨hoff.put 120 _ (by simp), vals_put hV 10 120 _ (by omega) (by rw [hVe]; simp) (by rw [hVe]; simp), hm, n0, n1⟩
        · obtain rfl := Option.some.inj ho
          have d10 : f 10 = true := hdep ⟨10, .data⟩ (by simp) rfl
          refine wp_indexAddr 102 (.tmp 120) (.const (.int .i64 2)) rfl _ _ (.pointer (some ⟨g, 2, none⟩)) (hv 10 120 (.slice (some ⟨g, 0, none⟩) 8 cap) (by rw [hVe]; simp) d10) rfl (iaddr32 g 2 8 cap 2 rfl (by decide)) ?_
          exact ⟨hoff.put 121 _ (by simp), vals_put hV 11 121 _ (by omega) (by rw [hVe]; simp) (by rw [hVe]; simp), hm, n0, n1⟩
        · obtain rfl := Option.some.inj ho
          have d11 : f 11 = true := hdep ⟨11, .data⟩ (by simp) rfl
          refine wp_load1 103 (.tmp 121) rfl _ (.int .u32 (n32 s.c)) (hv 11 121 (.pointer (some ⟨g, 2, none⟩)) (by rw [hVe]; simp) d11) (load32 _ _ _ (hw.cell 2 (by simp [S8.list]))) ?_
          exact ⟨hoff.put 122 _ (by simp), vals_put hV 12 122 _ (by omega) (by rw [hVe]; simp) (by rw [hVe]; simp), hm, n0, n1⟩
        · obtain rfl := Option.some.inj ho
          refine wp_move (.tmp 9) rfl ?_
          rw [((hoff.eval 9 (by simp)).trans hA9)]
          exact ⟨hoff.put 123 _ (by simp), vals_put hV 13 123 _ (by omega) (by rw [hVe]; simp) (by rw [hVe]; simp), hm, n0, n1⟩
        · obtain rfl := Option.some.inj ho
          have d12 : f 12 = true := hdep ⟨12, .data⟩ (by simp) rfl
          have d13 : f 13 = true := hdep ⟨13, .data⟩ (by simp) rfl
          refine wp_addU32 103 103 (.tmp 122) (.tmp 123) rfl Tryz.underlying103 (n32 s.c) (n32 x.c) (n32 (s.c + x.c)) (hv 12 122 (.int .u32 (n32 s.c)) (by rw [hVe]; simp) d12) (hv 13 123 (.int .u32 (n32 x.c)) (by rw [hVe]; simp) d13) (add32 _ _) ?_
          exact ⟨hoff.put 124 _ (by simp), vals_put hV 14 124 _ (by omega) (by rw [hVe]; simp) (by rw [hVe]; simp), hm, n0, n1⟩
        · obtain rfl := Option.some.inj ho
          refine wp_move (.tmp 0) rfl ?_
          rw [((hoff.eval 0 (by simp)).trans hA0)]
          exact ⟨hoff.put 125 _ (by simp), vals_put hV 15 125 _ (by omega) (by rw [hVe]; simp) (by rw [hVe]; simp), hm, n0, n1⟩
        · obtain rfl := Option.some.inj ho
          have d15 : f 15 = true := hdep ⟨15, .data⟩ (by simp) rfl
          refine wp_indexAddr 102 (.tmp 125) (.const (.int .i64 3)) rfl _ _ (.pointer (some ⟨g, 3, none⟩)) (hv 15 125 (.slice (some ⟨g, 0, none⟩) 8 cap) (by rw [hVe]; simp) d15) rfl (iaddr32 g 3 8 cap 3 rfl (by decide)) ?_
          exact ⟨hoff.put 126 _ (by simp), vals_put hV 16 126 _ (by omega) (by rw [hVe]; simp) (by rw [hVe]; simp), hm, n0, n1⟩
        · obtain rfl := Option.some.inj ho
          have d16 : f 16 = true := hdep ⟨16, .data⟩ (by simp) rfl
          refine wp_load1 103 (.tmp 126) rfl _ (.int .u32 (n32 s.d)) (hv 16 126 (.pointer (some ⟨g, 3, none⟩)) (by rw [hVe]; simp) d16) (load32 _ _ _ (hw.cell 3 (by simp [S8.list]))) ?_
          exact ⟨hoff.put 127 _ (by simp), vals_put hV 17 127 _ (by omega) (by rw [hVe]; simp) (by rw [hVe]; simp), hm, n0, n1⟩
        · obtain rfl := Option.some.inj ho
          refine wp_move (.tmp 10) rfl ?_
          rw [((hoff.eval 10 (by simp)).trans hA10)]
          exact ⟨hoff.put 128 _ (by simp), vals_put hV 18 128 _ (by omega) (by rw [hVe]; simp) (by rw [hVe]; simp), hm, n0, n1⟩
        · obtain rfl := Option.some.inj ho
          have d17 : f 17 = true := hdep ⟨17, .data⟩ (by simp) rfl
          have d18 : f 18 = true := hdep ⟨18, .data⟩ (by simp) rfl
          refine wp_addU32 103 103 (.tmp 127) (.tmp 128) rfl Tryz.underlying103 (n32 s.d) (n32 x.d) (n32 (s.d + x.d)) (hv 17 127 (.int .u32 (n32 s.d)) (by rw [hVe]; simp) d17) (hv 18 128 (.int .u32 (n32 x.d)) (by rw [hVe]; simp) d18) (add32 _ _) ?_
          exact ⟨hoff.put 129 _ (by simp), vals_put hV 19 129 _ (by omega) (by rw [hVe]; simp) (by rw [hVe]; simp), hm, n0, n1⟩
        · obtain rfl := Option.some.inj ho
          refine wp_move (.tmp 0) rfl ?_
          rw [((hoff.eval 0 (by simp)).trans hA0)]
          exact ⟨hoff.put 130 _ (by simp), vals_put hV 20 130 _ (by omega) (by rw [hVe]; simp) (by rw [hVe]; simp), hm, n0, n1⟩
        · obtain rfl := Option.some.inj ho
          have d20 : f 20 = true := hdep ⟨20, .data⟩ (by simp) rfl
          refine wp_indexAddr 102 (.tmp 130) (.const (.int .i64 4)) rfl _ _ (.pointer (some ⟨g, 4, none⟩)) (hv 20 130 (.slice (some ⟨g, 0, none⟩) 8 cap) (by rw [hVe]; simp) d20) rfl (iaddr32 g 4 8 cap 4 rfl (by decide)) ?_
          exact ⟨hoff.put 131 _ (by simp), vals_put hV 21 131 _ (by omega) (by rw [hVe]; simp) (by rw [hVe]; simp), hm, n0, n1⟩
        · obtain rfl := Option.some.inj ho
          have d21 : f 21 = true := hdep ⟨21, .data⟩ (by simp) rfl
          refine wp_load1 103 (.tmp 131) rfl _ (.int .u32 (n32 s.e)) (hv 21 131 (.pointer (some ⟨g, 4, none⟩)) (by rw [hVe]; simp) d21) (load32 _ _ _ (hw.cell 4 (by simp [S8.list]))) ?_
          exact ⟨hoff.put 132 _ (by simp), vals_put hV 22 132 _ (by omega) (by rw [hVe]; simp) (by rw [hVe]; simp), hm, n0, n1⟩
        · obtain rfl := Option.some.inj ho
          refine wp_move (.tmp 11) rfl ?_
          rw [((hoff.eval 11 (by simp)).trans hA11)]
          exact ⟨hoff.put 133 _ (by simp), vals_put hV 23 133 _ (by omega) (by rw [hVe]; simp) (by rw [hVe]; simp), hm, n0, n1⟩
        · obtain rfl := Option.some.inj ho
          have d22 : f 22 = true := hdep ⟨22, .data⟩ (by simp) rfl
          have d23 : f 23 = true := hdep ⟨23, .data⟩ (by simp) rfl
          refine wp_addU32 103 103 (.tmp 132) (.tmp 133) rfl Tryz.underlying103 (n32 s.e) (n32 x.e) (n32 (s.e + x.e)) (hv 22 132 (.int .u32 (n32 s.e)) (by rw [hVe]; simp) d22) (hv 23 133 (.int .u32 (n32 x.e)) (by rw [hVe]; simp) d23) (add32 _ _) ?_
          exact ⟨hoff.put 134 _ (by simp), vals_put hV 24 134 _ (by omega) (by rw [hVe]; simp) (by rw [hVe]; simp), hm, n0, n1⟩
        · obtain rfl := Option.some.inj ho
          refine wp_move (.tmp 0) rfl ?_
          rw [((hoff.eval 0 (by simp)).trans hA0)]
          exact ⟨hoff.put 135 _ (by simp), vals_put hV 25 135 _ (by omega) (by rw [hVe]; simp) (by rw [hVe]; simp), hm, n0, n1⟩
        · obtain rfl := Option.some.inj ho
          have d25 : f 25 = true := hdep ⟨25, .data⟩ (by simp) rfl
          refine wp_indexAddr 102 (.tmp 135) (.const (.int .i64 5)) rfl _ _ (.pointer (some ⟨g, 5, none⟩)) (hv 25 135 (.slice (some ⟨g, 0, none⟩) 8 cap) (by rw [hVe]; simp) d25) rfl (iaddr32 g 5 8 cap 5 rfl (by decide)) ?_
          exact ⟨hoff.put 136 _ (by simp), vals_put hV 26 136 _ (by omega) (by rw [hVe]; simp) (by rw [hVe]; simp), hm, n0, n1⟩
        · obtain rfl := Option.some.inj ho
          have d26 : f 26 = true := hdep ⟨26, .data⟩ (by simp) rfl
          refine wp_load1 103 (.tmp 136) rfl _ (.int .u32 (n32 s.f)) (hv 26 136 (.pointer (some ⟨g, 5, none⟩)) (by rw [hVe]; simp) d26) (load32 _ _ _ (hw.cell 5 (by simp [S8.list]))) ?_
          exact ⟨hoff.put 137 _ (by simp), vals_put hV 27 137 _ (by omega) (by rw [hVe]; simp) (by rw [hVe]; simp), hm, n0, n1⟩
        · obtain rfl := Option.some.inj ho
          refine wp_move (.tmp 12) rfl ?_
          rw [((hoff.eval 12 (by simp)).trans hA12)]
          exact ⟨hoff.put 138 _ (by simp), vals_put hV 28 138 _ (by omega) (by rw [hVe]; simp) (by rw [hVe]; simp), hm, n0, n1⟩
        · obtain rfl := Option.some.inj ho
          have d27 : f 27 = true := hdep ⟨27, .data⟩ (by simp) rfl
          have d28 : f 28 = true := hdep ⟨28, .data⟩ (by simp) rfl
          refine wp_addU32 103 103 (.tmp 137) (.tmp 138) rfl Tryz.underlying103 (n32 s.f) (n32 x.f) (n32 (s.f + x.f)) (hv 27 137 (.int .u32 (n32 s.f)) (by rw [hVe]; simp) d27) (hv 28 138 (.int .u32 (n32 x.f)) (by rw [hVe]; simp) d28) (add32 _ _) ?_
          exact ⟨hoff.put 139 _ (by simp), vals_put hV 29 139 _ (by omega) (by rw [hVe]; simp) (by rw [hVe]; simp), hm, n0, n1⟩
        · obtain rfl := Option.some.inj ho
          refine wp_move (.tmp 0) rfl ?_
          rw [((hoff.eval 0 (by simp)).trans hA0)]
          exact ⟨hoff.put 140 _ (by simp), vals_put hV 30 140 _ (by omega) (by rw [hVe]; simp) (by rw [hVe]; simp), hm, n0, n1⟩
        · obtain rfl := Option.some.inj ho
          have d30 : f 30 = true := hdep ⟨30, .data⟩ (by simp) rfl
          refine wp_indexAddr 102 (.tmp 140) (.const (.int .i64 6)) rfl _ _ (.pointer (some ⟨g, 6, none⟩)) (hv 30 140 (.slice (some ⟨g, 0, none⟩) 8 cap) (by rw [hVe]; simp) d30) rfl (iaddr32 g 6 8 cap 6 rfl (by decide)) ?_
          exact ⟨hoff.put 141 _ (by simp), vals_put hV 31 141 _ (by omega) (by rw [hVe]; simp) (by rw [hVe]; simp), hm, n0, n1⟩
        · obtain rfl := Option.some.inj ho
          have d31 : f 31 = true := hdep ⟨31, .data⟩ (by simp) rfl
          refine wp_load1 103 (.tmp 141) rfl _ (.int .u32 (n32 s.g)) (hv 31 141 (.pointer (some ⟨g, 6, none⟩)) (by rw [hVe]; simp) d31) (load32 _ _ _ (hw.cell 6 (by simp [S8.list]))) ?_
          exact ⟨hoff.put 142 _ (by simp), vals_put hV 32 142 _ (by omega) (by rw [hVe]; simp) (by rw [hVe]; simp), hm, n0, n1⟩
        · obtain rfl := Option.some.inj ho
          refine wp_move (.tmp 13) rfl ?_
          rw [((hoff.eval 13 (by simp)).trans hA13)]
          exact ⟨hoff.put 143 _ (by simp), vals_put hV 33 143 _ (by omega) (by rw [hVe]; simp) (by rw [hVe]; simp), hm, n0, n1⟩
        · obtain rfl := Option.some.inj ho
          have d32 : f 32 = true := hdep ⟨32, .data⟩ (by simp) rfl
          have d33 : f 33 = true := hdep ⟨33, .data⟩ (by simp) rfl
          refine wp_addU32 103 103 (.tmp 142) (.tmp 143) rfl Tryz.underlying103 (n32 s.g) (n32 x.g) (n32 (s.g + x.g)) (hv 32 142 (.int .u32 (n32 s.g)) (by rw [hVe]; simp) d32) (hv 33 143 (.int .u32 (n32 x.g)) (by rw [hVe]; simp) d33) (add32 _ _) ?_
          exact ⟨hoff.put 144 _ (by simp), vals_put hV 34 144 _ (by omega) (by rw [hVe]; simp) (by rw [hVe]; simp), hm, n0, n1⟩
        · obtain rfl := Option.some.inj ho
          refine wp_move (.tmp 0) rfl ?_
          rw [((hoff.eval 0 (by simp)).trans hA0)]
          exact ⟨hoff.put 145 _ (by simp), vals_put hV 35 145 _ (by omega) (by rw [hVe]; simp) (by rw [hVe]; simp), hm, n0, n1⟩
        · obtain rfl := Option.some.inj ho
          have d35 : f 35 = true := hdep ⟨35, .data⟩ (by simp) rfl
          refine wp_indexAddr 102 (.tmp 145) (.const (.int .i64 7)) rfl _ _ (.pointer (some ⟨g, 7, none⟩)) (hv 35 145 (.slice (some ⟨g, 0, none⟩) 8 cap) (by rw [hVe]; simp) d35) rfl (iaddr32 g 7 8 cap 7 rfl (by decide)) ?_
          exact ⟨hoff.put 146 _ (by simp), vals_put hV 36 146 _ (by omega) (by rw [hVe]; simp) (by rw [hVe]; simp), hm, n0, n1⟩
        · obtain rfl := Option.some.inj ho
          have d36 : f 36 = true := hdep ⟨36, .data⟩ (by simp) rfl
          refine wp_load1 103 (.tmp 146) rfl _ (.int .u32 (n32 s.h)) (hv 36 146 (.pointer (some ⟨g, 7, none⟩)) (by rw [hVe]; simp) d36) (load32 _ _ _ (hw.cell 7 (by simp [S8.list]))) ?_
          exact ⟨hoff.put 147 _ (by simp), vals_put hV 37 147 _ (by omega) (by rw [hVe]; simp) (by rw [hVe]; simp), hm, n0, n1⟩
        · obtain rfl := Option.some.inj ho
          refine wp_move (.tmp 14) rfl ?_
          rw [((hoff.eval 14 (by simp)).trans hA14)]
          exact ⟨hoff.put 148 _ (by simp), vals_put hV 38 148 _ (by omega) (by rw [hVe]; simp) (by rw [hVe]; simp), hm, n0, n1⟩
        · obtain rfl := Option.some.inj ho
          have d37 : f 37 = true := hdep ⟨37, .data⟩ (by simp) rfl
          have d38 : f 38 = true := hdep ⟨38, .data⟩ (by simp) rfl
          refine wp_addU32 103 103 (.tmp 147) (.tmp 148) rfl Tryz.underlying103 (n32 s.h) (n32 x.h) (n32 (s.h + x.h)) (hv 37 147 (.int .u32 (n32 s.h)) (by rw [hVe]; simp) d37) (hv 38 148 (.int .u32 (n32 x.h)) (by rw [hVe]; simp) d38) (add32 _ _) ?_
          exact ⟨hoff.put 149 _ (by simp), vals_put hV 39 149 _ (by omega) (by rw [hVe]; simp) (by rw [hVe]; simp), hm, n0, n1⟩
        · obtain rfl := Option.some.inj ho
          have d4 : f 4 = true := hdep ⟨4, .data⟩ (by simp) rfl
          have d9 : f 9 = true := hdep ⟨9, .data⟩ (by simp) rfl
          have d14 : f 14 = true := hdep ⟨14, .data⟩ (by simp) rfl
          have d19 : f 19 = true := hdep ⟨19, .data⟩ (by simp) rfl
          have d24 : f 24 = true := hdep ⟨24, .data⟩ (by simp) rfl
          have d29 : f 29 = true := hdep ⟨29, .data⟩ (by simp) rfl
          have d34 : f 34 = true := hdep ⟨34, .data⟩ (by simp) rfl
          have d39 : f 39 = true := hdep ⟨39, .data⟩ (by simp) rfl
          have f41 : f 41 = false := by
            cases hf : f 41 with
            | false => rfl
            | true => exact absurd (hm hf) (by rw [hfi]; simp)
          have hW := n0 hfi
          subst hW
          refine wp_buildR 102 8 #[(0, .tmp 114), (1, .tmp 119), (2, .tmp 124), (3, .tmp 129), (4, .tmp 134), (5, .tmp 139), (6, .tmp 144), (7, .tmp 149)] rfl #[(0, .int .u32 (n32 (s.a + x.a))), (1, .int .u32 (n32 (s.b + x.b))), (2, .int .u32 (n32 (s.c + x.c))), (3, .int .u32 (n32 (s.d + x.d))), (4, .int .u32 (n32 (s.e + x.e))), (5, .int .u32 (n32 (s.f + x.f))), (6, .int .u32 (n32 (s.g + x.g))), (7, .int .u32 (n32 (s.h + x.h)))] (by simp [hv 4 114 (.int .u32 (n32 (s.a + x.a))) (by rw [hVe]; simp) d4, hv 9 119 (.int .u32 (n32 (s.b + x.b))) (by rw [hVe]; simp) d9, hv 14 124 (.int .u32 (n32 (s.c + x.c))) (by rw [hVe]; simp) d14, hv 19 129 (.int .u32 (n32 (s.d + x.d))) (by rw [hVe]; simp) d19, hv 24 134 (.int .u32 (n32 (s.e + x.e))) (by rw [hVe]; simp) d24, hv 29 139 (.int .u32 (n32 (s.f + x.f))) (by rw [hVe]; simp) d29, hv 34 144 (.int .u32 (n32 (s.g + x.g))) (by rw [hVe]; simp) d34, hv 39 149 (.int .u32 (n32 (s.h + x.h))) (by rw [hVe]; simp) d39]) _ _ (build32_8 _ _ _ _ _ _ _ _ _) ?_
          exact ⟨hoff.put 150 _ (by simp), vals_put hV 40 150 _ (by omega) (by rw [hVe]; simp) (by rw [hVe]; simp), fun h => absurd h (by show ¬ f 41 = true; rw [f41]; simp), fun h => (by cases h), fun _ => rfl⟩
        · obtain rfl := Option.some.inj ho
          have d40 : f 40 = true := hdep ⟨40, .data⟩ (by simp) rfl
          refine wp_assign (.tmp 150) rfl ?_
          rw [hv 40 150 (.slice (some ⟨wd.heap.size, 0, none⟩) 8 8) (by rw [hVe]; simp) d40]
          exact ⟨hoff.put 4 _ (by simp), vals_put hV 41 4 _ (by omega) (by rw [hVe]; simp) (by rw [hVe]; simp), fun _ => d40, n0, n1⟩
        · simp at ho
      case fin =>
        rintro f a w3 ⟨hoff, hV, hm, n0, n1⟩ hall
        have e := Off.all _ _ hoff
        have e4 : a.eval (.tmp 4) = .slice (some ⟨wd.heap.size, 0, none⟩) 8 8 := hV (41, 4, .slice (some ⟨wd.heap.size, 0, none⟩) 8 8) (by rw [hVe]; simp) (hall 41 (by decide))
        have hw3 := n1 (hall 40 (by decide))
        simp only [List.foldl_cons, List.foldl_nil] at e
        rw [← hA, e4] at e
        generalize a.eval (.tmp 110) = y110, a.eval (.tmp 111) = y111, a.eval (.tmp 112) = y112, a.eval (.tmp 113) = y113, a.eval (.tmp 114) = y114, a.eval (.tmp 115) = y115, a.eval (.tmp 116) = y116, a.eval (.tmp 117) = y117, a.eval (.tmp 118) = y118, a.eval (.tmp 119) = y119, a.eval (.tmp 120) = y120, a.eval (.tmp 121) = y121, a.eval (.tmp 122) = y122, a.eval (.tmp 123) = y123, a.eval (.tmp 124) = y124, a.eval (.tmp 125) = y125, a.eval (.tmp 126) = y126, a.eval (.tmp 127) = y127, a.eval (.tmp 128) = y128, a.eval (.tmp 129) = y129, a.eval (.tmp 130) = y130, a.eval (.tmp 131) = y131, a.eval (.tmp 132) = y132, a.eval (.tmp 133) = y133, a.eval (.tmp 134) = y134, a.eval (.tmp 135) = y135, a.eval (.tmp 136) = y136, a.eval (.tmp 137) = y137, a.eval (.tmp 138) = y138, a.eval (.tmp 139) = y139, a.eval (.tmp 140) = y140, a.eval (.tmp 141) = y141, a.eval (.tmp 142) = y142, a.eval (.tmp 143) = y143, a.eval (.tmp 144) = y144, a.eval (.tmp 145) = y145, a.eval (.tmp 146) = y146, a.eval (.tmp 147) = y147, a.eval (.tmp 148) = y148, a.eval (.tmp 149) = y149, a.eval (.tmp 150) = y150 at e
        simp only [Act.put, List.setIfInBounds_toArray, List.set_cons_succ, List.set_cons_zero] at e
        subst e
        subst hw3
        clear hwd hoff hV hA0 hA7 hA8 hA9 hA10 hA11 hA12 hA13 hA14 hA hVe n0 n1 hm e4
        go_wp2
        go_ret
        refine ⟨wd.heap.size, rfl, ?_, (unhide HBD).size, (unhide HBD).alloc (unhide HBD).size _⟩
        rw [unhide hmx]
        exact heap_alloc_new _ _

end Go.Proofs.YtkcnihngkmaecaaGreat
