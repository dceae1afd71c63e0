
/- Contracts of sha.New, (*Hash).Write, Len, Sum and of sha.Sum. -/
import Derived.Test.YtcdnpdmcijiffaaShaTk
import Derived.Test.YtcdnpdmcijiffaaShaP
import Derived.Test.YtcdnpdmcijiffaaShaD
namespace Go.Proofs.Ytcdnpdmcijiffaa
open Go.RowKit
set_option linter.unusedVariables false

/-- the document's sum of bytes -/
def shaSum (l : List UInt8) : List UInt8 := dig (mixN (l ++ padL l.length) ((l ++ padL l.length).length / 64)).list
theorem shaSum_length (l : List UInt8) : (shaSum l).length = 32 := dig_length _

theorem hashOf_nil : HashOf [] s8H (List.replicate 64 0) := ⟨rfl, List.length_replicate, rfl⟩

/-- the cells of a sum of nothing -/
def cells0 : List Value := uc H0 ++ bc (List.replicate 64 0) ++ [Value.int .i64 0]

set_option maxRecDepth 100000 in
theorem new_any (w : World) :
    Calls Try.prog 77 #[] w fun e w' => ∃ b, e = .returned (.pointer (some ⟨b, 0, none⟩)) ∧ HashAt w' b s8H (List.replicate 64 0) 0 ∧ w.heap.size ≤ b ∧ Below w.heap.size w w' := by
  obtain ⟨C, hC⟩ : ∃ C, C = cells0.toArray := ⟨_, rfl⟩
  obtain ⟨U, hU⟩ : ∃ U, U = (uc H0).toArray := ⟨_, rfl⟩
  have hst := hide start_any
  rw [← hU] at hst
  have HC := hide hC
  have HU := hide hU
  clear hC hU
  go_enter Try.func77, Try.ntmps77
  go_wp2_with fail
  refine (unhide hst w).mono ?_
  rintro e w1 ⟨rfl, b1⟩
  go_wp2_with (refine wpList_value (.agg C) rfl _ _ rfl ?hb ?_)
  case hb => rw [unhide HC, unhide HU]; kernel_rfl
  go_ret
  refine ⟨w1.heap.size, rfl, ⟨?_, List.length_replicate⟩, b1.size, b1.alloc b1.size _⟩
  rw [heap_alloc_new, unhide HC]
  rfl

set_option maxRecDepth 100000 in
theorem write_nil (w : World) (s : ByteArray) :
    Calls Try.prog 78 #[.pointer none, .string s] w fun e w' => e = .returned (.int .i64 1) ∧ w = w' := by
  go_enter Try.func78, Try.ntmps78
  go_wp2
  go_ret
  exact ⟨rfl, rfl⟩
set_option maxRecDepth 100000 in
theorem write_long (w : World) (b : Nat) (st : S8) (P : List UInt8) (n : Nat) (s : ByteArray) (hs : s.size ≤ maxLen) (hn : n ≤ 65536) (hl : 65536 < n + s.size) (hW : HashAt w b st P n) :
    Calls Try.prog 78 #[.pointer (some ⟨b, 0, none⟩), .string s] w fun e w' => e = .returned (.int .i64 2) ∧ w = w' := by
  have c72 := hW.long
  have h1 : (65536 : Int) - n < s.size := by omega
  have h2 : (n : Int) ≤ 65536 := by omega
  clear hW hl hn
  unfold maxLen at hs
  go_enter Try.func78, Try.ntmps78
  go_wp2
  go_ret
  exact ⟨rfl, rfl⟩
set_option maxRecDepth 100000 in
theorem write_any (w : World) (b : Nat) (l : List UInt8) (st : S8) (P : List UInt8) (s : ByteArray) (hl : l.length + s.size ≤ 65536) (hW : HashAt w b st P l.length) (hH : HashOf l st P) :
    Calls Try.prog 78 #[.pointer (some ⟨b, 0, none⟩), .string s] w fun e w' => e = .returned (.int .i64 0) ∧ ∃ st' P', HashAt w' b st' P' (l ++ s.data.toList).length ∧ HashOf (l ++ s.data.toList) st' P' ∧ Kept w.heap.size b w w' := by
  have c72 := hW.long
  have h1 : ¬ (65536 : Int) - l.length < s.size := by omega
  have h2 : (l.length : Int) ≤ 65536 := by omega
  have HW := hide hW
  have HH := hide hH
  have HL := hide hl
  clear hW hH hl
  go_enter Try.func78, Try.ntmps78
  go_wp2_with fail
  refine (take_any w b l st P s (by have := unhide HL; omega) (unhide HW) (unhide HH)).mono ?_
  rintro e w1 ⟨rfl, hx⟩
  have HX := hide hx
  clear hx
  go_wp2
  go_ret
  exact ⟨rfl, unhide HX⟩
set_option maxRecDepth 100000 in
theorem sumM_nil (w : World) : Calls Try.prog 79 #[.pointer none] w fun e w' => e = .returned (.string ⟨#[]⟩) ∧ w = w' := by
  go_enter Try.func79, Try.ntmps79
  go_wp2
  go_ret
  exact ⟨rfl, rfl⟩

theorem wpList_store_abs {P : Program} {ops : Array Oper} {rest : List Oper} {op : Oper} {a : Act} {w : World} {Q : Exit → Act → World → Prop} (hgd : op.guard = none) (ty : TypeId) (x y : Operand) (ho : op.op = .store ty x y)
    (b o : Nat) (cells : Array Value) (hx : a.eval x = .pointer (some ⟨b, o, none⟩)) (hy : a.eval y = .agg cells)
    (ht : w.there b o cells.size) (hi : (P.info? ty).map (·.size) = some cells.size) (h1 : cells.all (·.oneCell') = true)
    (h : ∀ w', Hid (w' = w.setCells b o cells.toList) → wpList P ops Q rest (a.put op.dst undef) w') : wpList P ops Q (op :: rest) a w :=
  wpList_store_mid hgd ty x y ho b o cells hx hy ht hi h1 (h _ rfl)
theorem hashOf_sum (l : List UInt8) (st : S8) (P : List UInt8) (h : HashOf (l ++ padL l.length) st P) : dig st.list = shaSum l := by
  unfold shaSum
  rw [h.state]

set_option maxRecDepth 100000 in
theorem sumM_any (w : World) (b : Nat) (l : List UInt8) (st : S8) (P : List UInt8) (hl : l.length ≤ 65536) (hW : HashAt w b st P l.length) (hH : HashOf l st P) :
    Calls Try.prog 79 #[.pointer (some ⟨b, 0, none⟩)] w fun e w' => e = .returned (.string ⟨(shaSum l).toArray⟩) ∧ Below w.heap.size w w' := by
  have c72 := hW.long
  have hh := hW.heap
  have hP := hW.len
  have hcl := hash_cells_length st P l.length hP
  have h1c : (uc st.list ++ bc P ++ [Value.int .i64 l.length]).toArray.all (·.oneCell') = true := by
    refine all_oneCell_toArray ?_
    intro v hv
    rcases List.mem_append.1 hv with hv | hv
    · rcases List.mem_append.1 hv with hv | hv
      · exact uc_oneCell _ v hv
      · exact bc_oneCell _ v hv
    · simp at hv; subst hv; rfl
  obtain ⟨Z, hZ⟩ : ∃ Z : List Value, Z = uc (List.replicate 8 0) ++ bc (List.replicate 64 0) ++ [Value.int .i64 0] := ⟨_, rfl⟩
  have hZl : Z.length = 73 := by rw [hZ]; rfl
  have hzv : ∀ w, (zeroValue 118).run Try.prog w = .ok (.agg Z.toArray) w := fun w => by rw [hZ]; kernel_rfl
  generalize hcs : uc st.list ++ bc P ++ [Value.int .i64 l.length] = cs at *
  have HCS := hide hcs
  have HH := hide hH
  have HL := hide hl
  have HW := hide hW
  clear hcs hH hl hZ hW
  go_enter Try.func79, Try.ntmps79
  go_wp2_with (first | (refine wpList_load_row rfl 118 (.tmp 7) rfl b rfl 118 cs.toArray (0, 0) _ hh Try.underlying118 rfl ?hi2 ?_) | (refine wpList_store_abs rfl 118 (.tmp 3) (.tmp 8) rfl w.heap.size 0 cs.toArray rfl rfl ?ht3 ?hi3 h1c ?_))
  case hi2 => rw [List.size_toArray, hcl]; kernel_rfl
  case ht3 =>
    have := there_of_block (heap_alloc_new w (.cells Z.toArray 118))
    have e1 : Z.toArray.size = 73 := by rw [List.size_toArray, hZl]
    have e2 : cs.toArray.size = 73 := by rw [List.size_toArray, hcl]
    rw [e1] at this
    rw [e2]
    exact this
  case hi3 => rw [List.size_toArray, hcl]; kernel_rfl
  intro w2 hw2
  have hb2 : Below w.heap.size w w2 := by rw [unhide hw2]; exact below_setCells (Nat.le_refl _) _ _ _ ((Below.refl _ _).alloc (Nat.le_refl _) _)
  have hz2 : w.heap.size < w2.heap.size := by rw [unhide hw2, heap_setCells_size]; simp
  have c72' : w2.cell? ⟨b, 72, none⟩ = some (.int .i64 l.length) := (hb2.cell (p := ⟨b, 72, none⟩) (unhide HW).lt).trans c72
  have hA2 : HashAt w2 w.heap.size st P l.length := by
    refine ⟨?_, hP⟩
    rw [unhide hw2, unhide HCS]
    have := heap_setCells_same w.heap.size 118 cs 0 (w.alloc (.cells Z.toArray 118)) Z (heap_alloc_new _ _) (by omega)
    rw [List.take_zero, List.nil_append] at this
    exact this
  have HA2 := hide hA2
  have HB2 := hide hb2
  have HZ2 := hide hz2
  clear hA2 hb2 hz2 hw2 c72 hh hzv h1c
  go_wp2_with fail
  refine (pad_any l.length w2 (unhide HL)).mono ?_
  rintro e w3 ⟨rfl, b3⟩
  have hpl := padL_length l.length
  have hzl := zerosOf_lt l.length
  obtain ⟨D, hD⟩ : ∃ D : ByteArray, D = ⟨(padL l.length).toArray⟩ := ⟨_, rfl⟩
  rw [← hD]
  have hDl : D.data.toList = padL l.length := by rw [hD]
  have hDs : D.size = zerosOf l.length + 9 := by rw [← blen, hDl, hpl]
  have HD := hide hDl
  have HS := hide hDs
  have B3 := hide b3
  clear hD hDl hDs b3 hpl
  go_wp2_with fail
  refine (take_any w3 w.heap.size l st P D (by have := unhide HL; rw [unhide HS]; omega) ((unhide HA2).below (unhide B3)) (unhide HH)).mono ?_
  rintro e w4 ⟨rfl, st4, P4, hA4, hO4, hK4⟩
  rw [unhide HD] at hA4 hO4
  have hsum := hide (hashOf_sum l st4 P4 hO4)
  have hr4 := hA4.range8
  have hl8 : (uc st4.list).length = 8 := by rw [uc_length, S8.len]
  have B4 : Hid (Below w.heap.size w w4) := by
    have z2 := unhide HZ2
    have z3 := (unhide B3).size
    exact ((unhide HB2).trans ((unhide B3).mono (by omega))).trans (hK4.below _ (by omega) (Nat.le_refl _))
  have hdg := hide (digest_any st4)
  generalize uc st4.list = U at *
  clear hA4 hO4 hK4 HB2 B3 HZ2 HA2
  go_wp2_with (refine wpList_load_mid rfl 114 (.tmp 15) rfl w.heap.size 0 rfl U _ hr4 Try.underlying114 rfl ?hi4 ?_)
  case hi4 => rw [hl8]; kernel_rfl
  refine (unhide hdg w4).mono ?_
  rintro e w5 ⟨rfl, b5⟩
  rw [unhide hsum]
  have hb5 := hide ((unhide B4).trans (b5.mono (unhide B4).size))
  clear b5
  generalize hG : (shaSum l).toArray = G
  have HG := hide hG
  clear hG
  go_wp2
  go_ret
  exact ⟨by rw [unhide HG]; rfl, unhide hb5⟩

set_option maxRecDepth 100000 in
theorem sum_long (w : World) (s : ByteArray) (hs : s.size ≤ maxLen) (hl : 65536 < s.size) :
    Calls Try.prog 75 #[.string s] w fun e w' => e = .returned (.string ⟨#[]⟩) ∧ Below w.heap.size w w' := by
  go_enter Try.func75, Try.ntmps75
  go_wp2_with fail
  refine (new_any w).mono ?_
  rintro e w1 ⟨b, rfl, hA, hb, b1⟩
  have HA := hide hA
  clear hA
  go_wp2_with fail
  refine (write_long w1 b _ _ 0 s hs (by omega) (by omega) (unhide HA)).mono ?_
  rintro e w2 ⟨rfl, rfl⟩
  go_wp2
  go_ret
  exact ⟨rfl, b1⟩
set_option maxRecDepth 100000 in
theorem sum_any (w : World) (s : ByteArray) (hl : s.size ≤ 65536) :
    Calls Try.prog 75 #[.string s] w fun e w' => e = .returned (.string ⟨(shaSum s.data.toList).toArray⟩) ∧ Below w.heap.size w w' := by
  go_enter Try.func75, Try.ntmps75
  go_wp2_with fail
  refine (new_any w).mono ?_
  rintro e w1 ⟨b, rfl, hA, hb, b1⟩
  have HA := hide hA
  clear hA
  go_wp2_with fail
  refine (write_any w1 b [] _ _ s (by simpa using hl) (unhide HA) hashOf_nil).mono ?_
  rintro e w2 ⟨rfl, st2, P2, hA2, hO2, hK2⟩
  rw [List.nil_append] at hA2 hO2
  have HA2 := hide hA2
  have HO2 := hide hO2
  have B2 := hide (b1.trans (hK2.below _ b1.size hb))
  clear hA2 hO2 hK2 b1
  go_wp2_with fail
  refine (sumM_any w2 b s.data.toList st2 P2 (by rw [blen]; exact hl) (unhide HA2) (unhide HO2)).mono ?_
  rintro e w3 ⟨rfl, b3⟩
  have B3 := hide ((unhide B2).trans (b3.mono (unhide B2).size))
  clear b3
  generalize hG : (shaSum s.data.toList).toArray = G
  have HG := hide hG
  clear hG
  go_wp2
  go_ret
  exact ⟨by rw [unhide HG]; rfl, unhide B3⟩
theorem size_shaSum (l : List UInt8) : (⟨(shaSum l).toArray⟩ : ByteArray).size = 32 := by
  show (shaSum l).toArray.size = 32
  rw [List.size_toArray, shaSum_length]

end Go.Proofs.Ytcdnpdmcijiffaa
