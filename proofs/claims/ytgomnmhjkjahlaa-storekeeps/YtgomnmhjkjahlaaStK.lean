/- store: All, Get. -/
import Derived.Test.YtgomnmhjkjahlaaStJ
namespace Go.Proofs.Ytgomnmhjkjahlaa
open Go.RowKit
set_option linter.unusedVariables false
attribute [local go_sem] Oper.semAt_some

/-- entries of the call's own, that say what others say -/
structure OwnE (w : World) (base : Nat) (v : Value) (rs rs' : List Raw) : Prop where
  row : w.ownsRow base 34 7 v rs'.length (ec rs')
  core : rs'.map Raw.core = rs.map Raw.core
  mem : ∀ r ∈ rs', Ints w r.a0 r.idx ∧ IntT w r.a0
theorem own_entry {w : World} {base n b : Nat} {v : Value} {xs : List Value} (h : w.ownsRow base 34 7 v n xs) (hb : v.ownBlock = some b) : ∃ cur, w.heap[b]? = some (.cells cur 34 (0, 0)) := by
  rcases h.2 with ⟨rfl, _⟩ | ⟨g, cap, cur, rfl, _, hg, _⟩
  · simp [Value.ownBlock] at hb
  · simp [Value.ownBlock] at hb
    subst hb
    exact ⟨cur, hg⟩
theorem own_shape7 {w : World} {base n : Nat} {e : TypeId} {v : Value} {xs : List Value} (h : w.ownsRow base e 7 v n xs) : ∃ ao cp, v = .slice ao n cp := by
  rcases h.2 with ⟨h', h0⟩ | ⟨g, cap', cur, h', _⟩
  · exact ⟨none, 0, by rw [h', h0]⟩
  · exact ⟨_, _, h'⟩
theorem core_len {a b : List Raw} (h : a.map Raw.core = b.map Raw.core) : a.length = b.length := by
  have := congrArg List.length h
  simpa using this
set_option maxRecDepth 100000 in
set_option maxHeartbeats 2000000 in
theorem all_any (p b : Nat) (room last : Int) (rs : List Raw) (w : World) (hS : StAt w p b room last rs) :
    Calls Try.prog 23 #[.pointer (some ⟨p, 0, none⟩)] w fun e w' => (∃ v, e = .returned v ∧ ∃ rs', OwnE w' w.heap.size v rs rs') ∧ Below w.heap.size w w' := by
  obtain ⟨i0, hi0, hz0, hz1, hz2⟩ := info_parts Try.infoEn
  obtain ⟨D0, hM0, hD0⟩ := hS.map
  have hpk := hide (pick_all p room last b last.toNat D0 rs (fun _ => true) hD0 w hS.blk hM0 hS.up (by have := hS.len; have := hS.room2; omega) (fun r hr W hW => all1_any r W))
  rw [filter_true] at hpk
  have hlen : rs.length ≤ 400 := by have := hS.len; have := hS.room2; omega
  have hwf : Hid (∀ r ∈ rs, (Lit.int .i64 r.id).wf = true) := fun r hr => WalkArith.wf_i64 (by have := hS.ids r hr; have := hS.last1; omega)
  have HS := hide hS
  clear hS hM0 hD0
  generalize hfl : rs.length = fl at *
  have HFL := hide hfl
  clear hfl
  go_enter Try.func23, Try.ntmps23
  go_wp2_with fail
  refine (unhide hpk).mono ?_
  rintro e w1 ⟨a0, c, rfl, hI, hge, hb1⟩
  have HI := hide hI
  have HB1 := hide hb1
  have hgt := hge
  clear hI hb1 hge hpk hgt
  go_wp2_with fail
  go_loopw [3, 9] (fun v u wr => ∃ (k : Nat) (rs' : List Raw), k ≤ fl ∧ u = .int .i64 k ∧ OwnE wr w1.heap.size v (rs.take k) rs' ∧ Below w1.heap.size w1 wr) (fun _ u _ => fl - (intOf u).toNat)
  case atStart => exact ⟨0, [], Nat.zero_le _, rfl, ⟨World.ownsRow_nil _ _ _ _, by simp, by simp⟩, Below.refl _ _⟩
  case round =>
    obtain ⟨k, rs', hk, rfl, hO, hB⟩ := hrel
    have hcl := core_len hO.core
    rw [List.length_take, unhide HFL] at hcl
    have hkl : rs'.length = k := by omega
    have hsh := hO.row
    rw [hkl] at hsh
    obtain ⟨ao, cp, rfl⟩ := own_shape7 hsh
    have HKL := hide hkl
    have HO := hide hO
    have HB := hide hB
    have HROW := hide hsh
    clear hcl hkl hO hB hsh
    by_cases hlt : k < fl
    · have hlt' : k < rs.length := by rw [unhide HFL]; exact hlt
      have hltm : k < (rs.map Raw.id).length := by simpa using hlt'
      obtain ⟨g, o, rfl, c0⟩ := (unhide HI).below (unhide HB) k hltm
      rw [List.getElem_map] at c0
      have hmem := List.getElem_mem hlt'
      have hbw : Below w.heap.size w wr := (unhide HB1).trans ((unhide HB).mono (unhide HB1).size)
      have hSr := (unhide HS).kept hbw
      obtain ⟨p0, p1, p2, fp⟩ := cells3 hSr.blk
      obtain ⟨D, hM, hD⟩ := hSr.map
      have hmr := hSr.mem _ hmem
      have hwx := unhide hwf _ hmem
      have HTK : Hid (rs.take (k + 1) = rs.take k ++ [rs[k]]) := List.take_succ_eq_append_getElem hlt'
      have hcp := hide (copied_any rs[k] wr hmr.1 (by have := hmr.2.1; omega))
      generalize rs[k] = x at *
      have q1 : (k : Int) < fl := by omega
      have HM := hide hM
      have HD := hide hD
      have HW := hide hwx
      have HX := hide hmem
      clear hM hD hwx hmem hmr hSr hbw hlt' hltm
      go_wp2_with (at_lookup; refine wpList_look1_st _ rfl _ _ rfl b last.toNat D rs (unhide HD) rfl (unhide HM) x (unhide HX) rfl (unhide HW) ?_)
      go_wp2_with fail
      refine (unhide hcp).mono ?_
      rintro e w2 ⟨⟨a1, c1, rfl, hI2, hlt2, hT2⟩, hb2⟩
      have hsz : w1.heap.size ≤ wr.heap.size := (unhide HB).size
      have HB2 := hide ((unhide HB).trans (hb2.mono hsz))
      have hszw2 := hb2.size
      have hrow2 : w2.ownsRow w1.heap.size 34 7 (.slice ao k cp) k (ec rs') := (unhide HROW).kept (row := none) ⟨hb2.os, hb2.tape, hb2.output, hb2.size, fun i hi _ => hb2.block i hi⟩ (by cases (Value.slice ao k cp).ownBlock <;> simp)
      have HROW2 := hide hrow2
      have hmem2 : ∀ r ∈ rs' ++ [x.at_ a1 c1], Ints w2 r.a0 r.idx ∧ IntT w2 r.a0 := fun r hr => by
        rw [List.mem_append] at hr
        rcases hr with hr | hr
        · obtain ⟨h1, h2⟩ := (unhide HO).mem r hr
          exact ⟨h1.below hb2, h2.same (fun j cur fr hj => hb2.block j (lt_of_block hj))⟩
        · simp at hr
          subst hr
          exact ⟨hI2, hT2⟩
      have HMEM := hide hmem2
      clear hI2 hlt2 hT2 hb2 hrow2 hmem2 HM hcp p0 p1 p2 fp c0
      go_wp2_with (at_builtin; refine wpList_append_own _ rfl _ _ 55 rfl w1.heap.size 34 i0 _ 7 88 Try.undEn hi0 hz0 hz1 hz2 rfl (by decide) _ _ _ rfl ((unhide HROW2).alloc _) ⟨w2.heap.size, 0, none⟩ 1 1 [.int .i64 x.id, .int .i64 x.peer, .int .i64 x.mode, .int .i64 x.seed, .string x.hv, .slice a1 x.idx.length c1, .string x.dt] rfl rfl (news_lit _ [_, _, _, _, _, _, _] _) ?d2 ?d3 ?d4 ?d5 ?_)
      case d2 => intro u hu; simp at hu; rcases hu with rfl | rfl | rfl | rfl | rfl | rfl | rfl <;> rfl
      case d3 => unfold maxLen; omega
      case d4 => omega
      case d5 => simp; omega
      intro v' w3 hown3 hgrow _
      have hrow3 : w3.ownsRow w1.heap.size 34 7 v' (k + 1) (ec (rs' ++ [x.at_ a1 c1])) := by rw [ec_append, ec_one]; exact hown3
      obtain ⟨a3, q3, rfl⟩ := own_shape7 hrow3
      have hO3 : OwnE w3 w1.heap.size (.slice a3 (k + 1) q3) (rs.take (k + 1)) (rs' ++ [x.at_ a1 c1]) := by
        refine ⟨?_, ?_, fun r hr => ?_⟩
        · rw [List.length_append, unhide HKL]; exact hrow3
        · rw [unhide HTK, List.map_append, List.map_append, (unhide HO).core]; rfl
        · obtain ⟨h1, h2⟩ := unhide HMEM r hr
          have hst : ∀ (j : Nat) (cur : Array Value) (fr : Nat × Nat), w2.heap[j]? = some (.cells cur 3 fr) → w3.heap[j]? = w2.heap[j]? := fun j cur fr hj => by
            have hjl := lt_of_block hj
            rw [hgrow.block j (by simp; omega) (fun e => by
              obtain ⟨cu, hcu⟩ := own_entry (unhide HROW2) e.symm
              rw [hj] at hcu
              simp at hcu), Below.heap_alloc _ _ _ hjl]
          exact ⟨h1.sameT h2 hst, h2.same hst⟩
      have HO3 := hide hO3
      have HB3 := hide (((unhide HB2).alloc (by omega) (.cells #[.int .i64 x.id, .int .i64 x.peer, .int .i64 x.mode, .int .i64 x.seed, .string x.hv, .slice a1 x.idx.length c1, .string x.dt] 34)).grown hgrow (by simp; omega) (fun j hj => ((unhide HROW2).lt j hj).1))
      clear hO3 hrow3 hown3 hgrow
      go_wp2
      go_roundw
      case rel => exact ⟨k + 1, _, by omega, by go_num, unhide HO3, unhide HB3⟩
      case measure => simp [intOf]; omega
    · have hke : k = fl := by omega
      subst hke
      have q1 : ¬ (k : Int) < k := by omega
      have hO := unhide HO
      rw [List.take_of_length_le (by rw [unhide HFL]; exact Nat.le_refl _)] at hO
      have hrow : World.ownsRow wr w.heap.size 34 7 (.slice ao k cp) rs'.length (ec rs') := by
        have h1 := hO.row
        refine ⟨h1.1, ?_⟩
        rcases h1.2 with h2 | ⟨g, cap', cur, h2, h3, h4⟩
        · exact .inl h2
        · exact .inr ⟨g, cap', cur, h2, Nat.le_trans (unhide HB1).size h3, h4⟩
      have HO2 := hide (show OwnE wr w.heap.size (.slice ao k cp) rs rs' from ⟨hrow, hO.core, hO.mem⟩)
      clear hO hrow
      go_wp2
      go_ret
      exact ⟨⟨_, rfl, rs', unhide HO2⟩, (unhide HB1).trans ((unhide HB).mono (unhide HB1).size)⟩
set_option maxRecDepth 100000 in
set_option maxHeartbeats 2000000 in
theorem get_any (p b : Nat) (room last : Int) (rs : List Raw) (k : Int) (hk : (Lit.int .i64 k).wf = true) (w : World) (hS : StAt w p b room last rs) :
    Calls Try.prog 28 #[.pointer (some ⟨p, 0, none⟩), .int .i64 k] w fun e w' => ((∀ r ∈ rs, r.id ≠ k) ∧ (∃ y, e = .returned (.tuple #[rawV y, .bool false])) ∨ ∃ x ∈ rs, x.id = k ∧ ∃ a1 c1, e = .returned (.tuple #[rawV (x.at_ a1 c1), .bool true]) ∧ Ints w' a1 x.idx) ∧ Below w.heap.size w w' := by
  obtain ⟨p0, p1, p2, fp⟩ := cells3 hS.blk
  obtain ⟨D, hM, hD⟩ := hS.map
  have hplt := hS.plt
  have HS := hide hS
  have HM := hide hM
  have HD := hide hD
  have HK := hide hk
  clear hS hM hD hk
  go_enter Try.func28, Try.ntmps28
  go_wp2_with (at_lookup; refine wpList_look_st _ rfl _ _ rfl b last.toNat D rs (unhide HD) rfl ((unhide HM).alloc _) k rfl (unhide HK) ?_ ?_)
  · intro hn
    have HN := hide hn
    clear hn
    have hB2 : Below w.heap.size w ((w.alloc (.cells zC 34)).alloc (.cells #[.int .i64 0, .int .i64 0, .int .i64 0, .int .i64 0, .string ⟨#[]⟩, .slice none 0 0, .string ⟨#[]⟩] 34)) := ((Below.refl _ w).alloc (Nat.le_refl _) _).alloc (by simp) _
    have hZ2 := heap2_a w (.cells zC 34) (.cells #[.int .i64 0, .int .i64 0, .int .i64 0, .int .i64 0, .string ⟨#[]⟩, .slice none 0 0, .string ⟨#[]⟩] 34)
    have hcp := hide (copied_any ⟨0, 0, 0, 0, ⟨#[]⟩, none, [], 0, ⟨#[]⟩⟩ ((w.alloc (.cells zC 34)).alloc (.cells #[.int .i64 0, .int .i64 0, .int .i64 0, .int .i64 0, .string ⟨#[]⟩, .slice none 0 0, .string ⟨#[]⟩] 34)) (fun i hi => absurd hi (by simp)) (by simp))
    have HB2 := hide hB2
    have HZ2 := hide hZ2
    clear hB2 hZ2
    go_wp2_with fail
    refine (unhide hcp).mono ?_
    rintro e w3 ⟨⟨a1, c1, rfl, hI3, hlt3, _⟩, hb3⟩
    have hZ3 := (hb3.block _ (lt_of_block (unhide HZ2))).trans (unhide HZ2)
    have hszz := lt_of_block (unhide HZ2)
    obtain ⟨d0, d1, d2, d3, d4, d5, d6, f1⟩ := row7 hZ3
    have HZ3 := hide hZ3
    have HI3 := hide hI3
    have HLT3 := hide hlt3
    have HB3 := hide ((unhide HB2).trans (hb3.mono (unhide HB2).size))
    clear hZ3 hI3 hlt3 hb3 hcp
    go_wp2
    have hE := set7 (unhide HZ3) (.int .i64 0) (.int .i64 0) (.int .i64 0) (.int .i64 0) (.string ⟨#[]⟩) (.slice a1 0 c1) (.string ⟨#[]⟩)
    refine bodyPost_ret (v := .tuple #[.agg #[.int .i64 0, .int .i64 0, .int .i64 0, .int .i64 0, .string ⟨#[]⟩, .slice a1 0 c1, .string ⟨#[]⟩], .bool false]) (by obtain ⟨e0, e1, e2, e3, e4, e5, e6, _⟩ := row7 hE; simp [results, Try.results28, go_sem, e0, e1, e2, e3, e4, e5, e6]) rfl ⟨?_, below7 (unhide HB3) (Nat.le_refl _) _ _ _ _ _ _ _⟩
    exact .inl ⟨unhide HN, ⟨0, 0, 0, 0, ⟨#[]⟩, a1, [], c1, ⟨#[]⟩⟩, rfl⟩
  · intro x hx hxk
    have hmx := (unhide HS).mem x hx
    have HX := hide hx
    have HXK := hide hxk
    clear hx hxk
    have hB2 : Below w.heap.size w ((w.alloc (.cells zC 34)).alloc (.cells #[.int .i64 x.id, .int .i64 x.peer, .int .i64 x.mode, .int .i64 x.seed, .string x.hv, .slice x.a0 x.idx.length x.cap, .string x.dt] 34)) := ((Below.refl _ w).alloc (Nat.le_refl _) _).alloc (by simp) _
    have hZ2 := heap2_a w (.cells zC 34) (.cells #[.int .i64 x.id, .int .i64 x.peer, .int .i64 x.mode, .int .i64 x.seed, .string x.hv, .slice x.a0 x.idx.length x.cap, .string x.dt] 34)
    have hcp := hide (copied_any x _ (hmx.1.below hB2) (by have := hmx.2.1; omega))
    have HB2 := hide hB2
    have HZ2 := hide hZ2
    clear hB2 hZ2
    go_wp2_with fail
    refine (unhide hcp).mono ?_
    rintro e w3 ⟨⟨a1, c1, rfl, hI3, hlt3, _⟩, hb3⟩
    have hZ3 := (hb3.block _ (lt_of_block (unhide HZ2))).trans (unhide HZ2)
    have hszz := lt_of_block (unhide HZ2)
    obtain ⟨d0, d1, d2, d3, d4, d5, d6, f1⟩ := row7 hZ3
    have HZ3 := hide hZ3
    have HI3 := hide hI3
    have HLT3 := hide hlt3
    have HB3 := hide ((unhide HB2).trans (hb3.mono (unhide HB2).size))
    clear hZ3 hI3 hlt3 hb3 hcp
    go_wp2
    have hE := set7 (unhide HZ3) (.int .i64 x.id) (.int .i64 x.peer) (.int .i64 x.mode) (.int .i64 x.seed) (.string x.hv) (.slice a1 x.idx.length c1) (.string x.dt)
    refine bodyPost_ret (v := .tuple #[.agg #[.int .i64 x.id, .int .i64 x.peer, .int .i64 x.mode, .int .i64 x.seed, .string x.hv, .slice a1 x.idx.length c1, .string x.dt], .bool true]) (by obtain ⟨e0, e1, e2, e3, e4, e5, e6, _⟩ := row7 hE; simp [results, Try.results28, go_sem, e0, e1, e2, e3, e4, e5, e6]) rfl ⟨?_, below7 (unhide HB3) (Nat.le_refl _) _ _ _ _ _ _ _⟩
    refine .inr ⟨x, unhide HX, unhide HXK, a1, c1, rfl, fun i hi => ?_⟩
    obtain ⟨g, o, hao, h⟩ := unhide HI3 i hi
    have hg := (unhide HLT3 _ hao).1
    simp at hg
    exact ⟨g, o, hao, cell_same (other7 (by omega) _ _ _ _ _ _ _) h⟩
end Go.Proofs.Ytgomnmhjkjahlaa
