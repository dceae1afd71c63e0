/- net: the document's put, one more. -/
import Derived.Test.YtmnjngkdiinnfaaNtQ
import Derived.Test.YtmnjngkdiinnfaaDo
namespace Go.Proofs.Ytmnjngkdiinnfaa
open Go.RowKit
set_option linter.unusedVariables false
attribute [local go_sem] Oper.semAt_some

theorem ownR_set {w : World} {B b : Nat} {v : Value} {l : List Mg} {cs : Array Value} {T : TypeId} (h : OwnR w B v l) (hb : w.heap[b]? = some (.cells cs T (0, 0))) (hT : T ≠ 37) (j : Nat) (x : Value) : OwnR (w.setCell ⟨b, j, none⟩ x) B v l :=
  h.up fun k cs' hk => Below.heap_setCell _ _ _ _ (by
    rintro rfl
    rw [hb] at hk
    simp only [Option.some.injEq, Obj.cells.injEq] at hk
    exact hT hk.2.1)
theorem ownR_rowlt {w : World} {B b : Nat} {v : Value} {l : List Mg} (h : OwnR w B v l) (hb : b < B) (cs : Array Value) : OwnR (w.setRow b cs) B v l := by
  refine ⟨h.1, ?_⟩
  rcases h.2 with ⟨h1, h2⟩ | ⟨g, cap, cur, h1, h2, h3, h4⟩
  · exact .inl ⟨h1, h2⟩
  · exact .inr ⟨g, cap, cur, h1, h2, (setRow_other _ _ _ _ (by omega)).trans h3, h4⟩
/-- ahead of the store of the answer (0), behind it (1) -/
structure PtD (w : World) (nC mC : Array Value) (B : Nat) (v : Value) (l : List Mg) (k : Nat) (x : World) : Prop where
  s : PtS w nC mC (if k = 0 then zDn else nC) x
  o : OwnR x B v l
  lo : w.heap.size + 2 < B
theorem PtD.up {w : World} {nC mC : Array Value} {B : Nat} {v : Value} {l : List Mg} {k : Nat} {x y : World} (h : PtD w nC mC B v l k x) (hb : Below x.heap.size x y) : PtD w nC mC B v l k y := ⟨h.s.up hb, h.o.below hb, h.lo⟩
theorem PtD.z0 {w : World} {nC mC : Array Value} {B : Nat} {v : Value} {l : List Mg} {x : World} (h : PtD w nC mC B v l 0 x) : x.heap[w.heap.size + 2]? = some (.cells zDn 28 (0, 0)) := h.s.zb
theorem PtD.z1 {w : World} {nC mC : Array Value} {B : Nat} {v : Value} {l : List Mg} {x : World} (h : PtD w nC mC B v l 1 x) : x.heap[w.heap.size + 2]? = some (.cells nC 28 (0, 0)) := h.s.zb
theorem PtD.store {w : World} {nC mC : Array Value} {B : Nat} {v : Value} {l : List Mg} {x : World} (h : PtD w nC mC B v l 0 x) : PtD w nC mC B v l 1 (x.setRow (w.heap.size + 2) nC) := ⟨h.s.setz nC, ownR_rowlt h.o h.lo _, h.lo⟩
theorem alloc_at {W : World} {N : Nat} (h : W.heap.size = N) (o : Obj) : (W.alloc o).heap[N]? = some o := by
  subst h
  exact heap_alloc_new W o
theorem ownR_setlt {w : World} {B b : Nat} {v : Value} {l : List Mg} (h : OwnR w B v l) (hb : b < B) (j : Nat) (x : Value) : OwnR (w.setCell ⟨b, j, none⟩ x) B v l := by
  refine ⟨h.1, ?_⟩
  rcases h.2 with ⟨h1, h2⟩ | ⟨g, cap, cur, h1, h2, h3, h4⟩
  · exact .inl ⟨h1, h2⟩
  · exact .inr ⟨g, cap, cur, h1, h2, (Below.heap_setCell _ _ _ _ (by show g ≠ b; omega)).trans h3, h4⟩
set_option maxRecDepth 100000 in
set_option maxHeartbeats 4000000 in
theorem dput_ok (B : Nat) (room last : Int) (v : Value) (rs : List Mg) (r : Mg) (w : World) (hO : OwnR w B v rs) (hf : (rs.length : Int) < room) (hr : room ≤ 600) (hl0 : 0 ≤ last) (hl : last < 1000000000) :
    Calls Try.prog 29 #[dnV room last v, mlV r] w fun e w' => (∃ v', e = .returned (.tuple #[dnV room (last + 1) v', .int .i64 (last + 1), .int .i64 0]) ∧ OwnR w' w.heap.size v' (rs ++ [{ r with id := last + 1 }])) ∧ Below w.heap.size w w' := by
  obtain ⟨aM, cM, rfl, hml⟩ := hO.mls
  obtain ⟨xi, xf, xt, xx⟩ := r
  obtain ⟨n, hn⟩ : ∃ n, rs.length = n := ⟨_, rfl⟩
  rw [hn] at hf ⊢
  have HN := hide hn
  have hp0 := ptS w (dnC room last (.slice aM n cM)) (mlL ⟨xi, xf, xt, xx⟩).toArray zDn
  have P0 := hide hp0
  have HML := hide (hml.up hp0.be)
  have d1 : decide (room ≤ (n : Int)) = false := decide_eq_false (by omega)
  obtain ⟨k0, hki, hkz0, hkz1, hkz2⟩ := info_parts Try.infoMr
  obtain ⟨c0, c1, c2, cf⟩ := cells3 hp0.nb
  have hwz : (((w.alloc (.cells (dnC room last (.slice aM n cM)) 28)).alloc (.cells (mlL ⟨xi, xf, xt, xx⟩).toArray 37)).alloc (.cells zDn 28)).heap.size = w.heap.size + 3 := by simp
  have HWZ := hide hwz
  clear hO hml hp0 hn hwz
  go_enter Try.func29, Try.ntmps29
  go_wp2_with fail
  unfold mlL at HWZ P0 HML
  dsimp only at HWZ P0 HML
  generalize hW0 : ((w.alloc (.cells #[.int .i64 room, .int .i64 last, .slice aM n cM] 28)).alloc (.cells #[.int .i64 xi, .int .i64 xf, .int .i64 xt, .string xx] 37)).alloc (.cells #[.int .i64 0, .int .i64 0, .slice none 0 0] 28) = W0 at *
  clear hW0 c0 c1 c2 cf
  go_loopw [7, 8] (fun lv kv wr => ∃ k : Nat, k ≤ n ∧ kv = .int .i64 k ∧ OwnR wr (w.heap.size + 3) lv (rs.take k) ∧ Below (w.heap.size + 3) W0 wr) (fun _ kv _ => n - (intOf kv).toNat)
  case atStart => exact ⟨0, by omega, rfl, by rw [List.take_zero]; exact World.ownsRow_nil _ _ _ _, Below.refl _ _⟩
  case round =>
    obtain ⟨k, hk, rfl, ho, hb⟩ := hrel
    obtain ⟨aL, cL, rfl, _⟩ := ho.mls
    have htk : (rs.take k).length = k := by rw [List.length_take, unhide HN]; omega
    rw [htk] at ho ⊢
    have HO := hide ho
    have HB := hide hb
    have PR := hide ((unhide P0).up3 hb)
    have hsz := hb.size
    have hw0 := unhide HWZ
    obtain ⟨c0, c1, c2, cf⟩ := cells3 (unhide PR).nb
    have HR : Hid (wr.ownsRow (w.heap.size + 3) 37 4 (.slice aL k cL) k (mlF (rs.take k))) := by
      have := ho
      unfold OwnR OwnM at this
      rw [htk] at this
      exact this
    have hwx : w.heap.size + 3 ≤ wr.heap.size := by omega
    clear ho hb hsz hw0
    by_cases hlt : k < n
    · have q1 : (k : Int) < n := by omega
      have hkl : k < rs.length := by rw [unhide HN]; exact hlt
      obtain ⟨x, hx⟩ : ∃ x, x = rs[k] := ⟨_, rfl⟩
      have hxk : rs[k]? = some x := by rw [hx]; exact List.getElem?_eq_getElem hkl
      have HTK : Hid (rs.take (k + 1) = rs.take k ++ [x]) := by rw [hx]; exact List.take_succ_eq_append_getElem hkl
      obtain ⟨gM, rfl, hrg⟩ := ((unhide HML).up ((unhide HB).mono (by have := unhide HWZ; omega) : Below W0.heap.size W0 wr)) k x hxk
      obtain ⟨yi, yf, yt, yx⟩ := x
      have y0 : wr.cell? ⟨gM, k * 4, none⟩ = some (.int .i64 yi) := hrg 0 _ rfl
      have y1 : wr.cell? ⟨gM, k * 4 + 1, none⟩ = some (.int .i64 yf) := hrg 1 _ rfl
      have y2 : wr.cell? ⟨gM, k * 4 + 2, none⟩ = some (.int .i64 yt) := hrg 2 _ rfl
      have y3 : wr.cell? ⟨gM, k * 4 + 3, none⟩ = some (.string yx) := hrg 3 _ rfl
      clear hkl hx hxk hrg
      go_wp2_with (refine wpList_append_lies _ rfl (.tmp 23) (.tmp 29) 26 rfl (w.heap.size + 3) 37 k0 (.agg #[.int .i64 0, .int .i64 0, .int .i64 0, .string ⟨#[]⟩]) 4 40 Try.undMr hki hkz0 hkz1 hkz2 rfl (by decide) (.slice aL k cL) k _ (by rfl) (own_m_alloc (unhide HR) _) ⟨wr.heap.size, 0, none⟩ 1 1 [.int .i64 yi, .int .i64 yf, .int .i64 yt, .string yx] (by rfl) (by rfl) (World.news_of_block (heap_alloc_new wr _)) (mlL_one ⟨yi, yf, yt, yx⟩) (by decide) (by unfold maxLen; omega) (by omega) (by simp; omega) _ rfl ?_)
      intro g2 cap2 w5 hown hgrow hat hlt2
      have hO5 : OwnR w5 (w.heap.size + 3) (.slice (some ⟨g2, 0, none⟩) (k + 1) cap2) (rs.take (k + 1)) := by
        unfold OwnR OwnM
        rw [unhide HTK, mlF_append, List.length_append, htk]
        exact hown
      have hB5 : Below (w.heap.size + 3) W0 w5 := ((unhide HB).alloc hwx _).grown hgrow (by simp; omega) (fun z hz => own_m_ge (unhide HO) hz)
      have HO5 := hide hO5
      have HB5 := hide hB5
      clear hown hgrow hat hlt2 hO5 hB5 HO HB HR htk c0 c1 c2 cf y0 y1 y2 y3
      go_wp2
      go_roundw
      case rel => exact ⟨k + 1, by omega, by go_num, unhide HO5, unhide HB5⟩
      case measure => simp [intOf]; omega
    · obtain rfl : k = n := by omega
      have q1 : ¬ (k : Int) < k := by omega
      have hfull : rs.take k = rs := List.take_of_length_le (by rw [unhide HN]; exact Nat.le_refl _)
      have hO1 : OwnR wr (w.heap.size + 3) (.slice aL k cL) rs := by
        have := unhide HO
        rw [hfull] at this
        exact this
      have S2 := hide (((unhide PR).setn 1 (.int .i64 (last + 1))).setm 0 (.int .i64 (last + 1)))
      have hO2 := ownR_setlt (ownR_setlt hO1 (show w.heap.size < w.heap.size + 3 by omega) 1 (.int .i64 (last + 1))) (show w.heap.size + 1 < w.heap.size + 3 by omega) 0 (.int .i64 (last + 1))
      have HO2 := hide hO2
      have HR2 : Hid (((wr.setCell ⟨w.heap.size, 1, none⟩ (.int .i64 (last + 1))).setCell ⟨w.heap.size + 1, 0, none⟩ (.int .i64 (last + 1))).ownsRow (w.heap.size + 3) 37 4 (.slice aL k cL) k (mlF rs)) := by
        have := hO2
        unfold OwnR OwnM at this
        rw [unhide HN] at this
        exact this
      obtain ⟨m0, m1, m2, m3, mf⟩ := cells4 (unhide PR).mb
      have hne1 : w.heap.size ≠ w.heap.size + 1 := by omega
      have hne2 : w.heap.size + 1 ≠ w.heap.size := by omega
      clear hfull hO1 hO2 HO HR htk
      go_wp2_with (refine wpList_append_lies _ rfl (.tmp 38) (.tmp 40) 26 rfl (w.heap.size + 3) 37 k0 (.agg #[.int .i64 0, .int .i64 0, .int .i64 0, .string ⟨#[]⟩]) 4 40 Try.undMr hki hkz0 hkz1 hkz2 rfl (by decide) (.slice aL k cL) k _ (by rfl) (own_m_alloc (unhide HR2) _) ⟨wr.heap.size, 0, none⟩ 1 1 [.int .i64 (last + 1), .int .i64 xf, .int .i64 xt, .string xx] (by rfl) (by rfl) (World.news_of_block (alloc_at (N := wr.heap.size) (by simp) _)) (mlL_one ⟨last + 1, xf, xt, xx⟩) (by decide) (by unfold maxLen; omega) (by omega) (by simp; omega) _ rfl ?_)
      intro g2 cap2 w5 hown hgrow hat hlt2
      have hgr2 := hgrow
      have hge : ∀ q, (Value.slice aL k cL).ownBlock = some q → w.heap.size + 3 ≤ q := fun q hq => own_m_ge (unhide HO2) hq
      have hb5 : Below (w.heap.size + 3) ((wr.setCell ⟨w.heap.size, 1, none⟩ (.int .i64 (last + 1))).setCell ⟨w.heap.size + 1, 0, none⟩ (.int .i64 (last + 1))) w5 := ((Below.refl _ _).alloc (by simp; omega) _).grown hgrow (by simp; omega) hge
      have S5 := hide ((unhide S2).up3 hb5)
      have hO5 : OwnR w5 (w.heap.size + 3) (.slice (some ⟨g2, 0, none⟩) (k + 1) cap2) (rs ++ [⟨last + 1, xf, xt, xx⟩]) := by
        unfold OwnR OwnM
        rw [mlF_append, List.length_append, unhide HN]
        exact hown
      have S6 := hide ((unhide S5).setn 2 (.slice (some ⟨g2, 0, none⟩) (k + 1) cap2))
      have HO6 := hide (ownR_setlt hO5 (show w.heap.size < w.heap.size + 3 by omega) 2 (.slice (some ⟨g2, 0, none⟩) (k + 1) cap2))
      clear hown hgrow hgr2 hat hlt2 hO5 hb5 hge HO2 HR2 c0 c1 c2 cf m0 m1 m2 m3 mf S2 PR HB
      have hn5 := (unhide S5).nb
      have hm5 := (unhide S5).mb
      unfold dnC at hn5
      unfold mlL at hm5
      simp only [List.setIfInBounds_toArray, List.set_cons_succ, List.set_cons_zero] at hn5 hm5
      obtain ⟨c0, c1, c2, cf⟩ := cells3 hn5
      clear hn5 hm5
      go_wp2_with fail
      generalize hW6 : w5.setCell ⟨w.heap.size, 2, none⟩ (.slice (some ⟨g2, 0, none⟩) (k + 1) cap2) = w6 at *
      clear hW6 c0 c1 c2 cf
      have hn6 := (unhide S6).nb
      have hm6 := (unhide S6).mb
      unfold dnC at hn6
      unfold mlL at hm6
      simp only [List.setIfInBounds_toArray, List.set_cons_succ, List.set_cons_zero] at hn6 hm6
      have HN6 := hide hn6
      have HM6 := hide hm6
      have HZ6 := hide (unhide S6).zb
      clear hn6 hm6
      have HS0 : Hid (∀ x, Below w6.heap.size w6 x → PtD w #[.int .i64 room, .int .i64 (last + 1), .slice (some ⟨g2, 0, none⟩) (k + 1) cap2] #[.int .i64 (last + 1), .int .i64 xf, .int .i64 xt, .string xx] (w.heap.size + 3) (.slice (some ⟨g2, 0, none⟩) (k + 1) cap2) (rs ++ [⟨last + 1, xf, xt, xx⟩]) 0 x) := fun x hx => ⟨⟨(hx.block _ (lt_of_block (unhide HN6))).trans (unhide HN6), (hx.block _ (lt_of_block (unhide HM6))).trans (unhide HM6), (hx.block _ (lt_of_block (unhide HZ6))).trans (unhide HZ6), (unhide S6).be.trans (hx.mono (unhide S6).be.size)⟩, (unhide HO6).below hx, by omega⟩
      clear S6 HO6 HN6 HM6 HZ6
      obtain ⟨RS, hRS⟩ : ∃ RS, RS = rs ++ [(⟨last + 1, xf, xt, xx⟩ : Mg)] := ⟨_, rfl⟩
      rw [← hRS] at HS0
      have HRS := hide hRS
      clear hRS
      refine wp_region_do [false, false, false, true, false, false] [] [] _ ?A0 (PtD w #[.int .i64 room, .int .i64 (last + 1), .slice (some ⟨g2, 0, none⟩) (k + 1) cap2] #[.int .i64 (last + 1), .int .i64 xf, .int .i64 xt, .string xx] (w.heap.size + 3) (.slice (some ⟨g2, 0, none⟩) (k + 1) cap2) RS) 1 (by kernel_rfl) (by kernel_rfl) (by kernel_rfl) rfl ?S00 (fun j x y h hb => h.up hb) (Off.refl _ _) ?lex0 (by simp) ?do0 ?_
      case S00 =>
        intro x hx
        exact unhide HS0 x hx
      case lex0 =>
        intro j x hS
        have hneX := gb_ne x
        have g0 : ∀ y : Gb x, y.w.cell? ⟨w.heap.size, 0, none⟩ = some (.int .i64 room) := fun y => gb_cell (cells3 hS.s.nb).1 y
        have g1 : ∀ y : Gb x, y.w.cell? ⟨w.heap.size, 1, none⟩ = some (.int .i64 (last + 1)) := fun y => gb_cell (cells3 hS.s.nb).2.1 y
        have gg : ∀ y : Gb x, y.w.cell? ⟨w.heap.size, 2, none⟩ = some (.slice (some ⟨g2, 0, none⟩) (k + 1) cap2) := fun y => gb_cell (cells3 hS.s.nb).2.2.1 y
        have gm : ∀ y : Gb x, y.w.cell? ⟨w.heap.size + 1, 0, none⟩ = some (.int .i64 (last + 1)) := fun y => gb_cell (cells4 hS.s.mb).1 y
        clear hS
        dsimp only [restM]
        repeat (go_big_quiet_step (fail))
        refine wpQuiet_nil ?_
        exact rfl
      case do0 =>
        dsimp only [effM]
        refine ⟨?_, trivial⟩
        intro x hS
        have HSx := hide hS.store
        have HXB := hide hS.z0
        clear hS
        go_wp2_with (refine wpList_store_row_to rfl 28 (.tmp 4) (.tmp 44) rfl (w.heap.size + 2) #[.int .i64 room, .int .i64 (last + 1), .slice (some ⟨g2, 0, none⟩) (k + 1) cap2] rfl rfl 28 zDn (unhide HXB) (by kernel_rfl) (by rfl) (by simp [Value.oneCell']) (PtD w #[.int .i64 room, .int .i64 (last + 1), .slice (some ⟨g2, 0, none⟩) (k + 1) cap2] #[.int .i64 (last + 1), .int .i64 xf, .int .i64 xt, .string xx] (w.heap.size + 3) (.slice (some ⟨g2, 0, none⟩) (k + 1) cap2) RS 1) (unhide HSx) ?_)
        intro w7 h7
        have H7 := hide h7
        clear h7
        go_wp2_with fail
        exact onlyN ⟨rfl, unhide H7⟩
      intro w8 hS
      have S7 := hide hS
      clear hS HS0
      go_wp2
      exact ret_row3 (p := 4) (q := 5) (r := 6) (ty := 28) (by kernel_rfl) (w.heap.size + 2) 28 (dnC room (last + 1) (.slice (some ⟨g2, 0, none⟩) (k + 1) cap2)) (0, 0) _ _ _ rfl rfl rfl (unhide S7).z1 rfl Try.underlying28 (dn_info _ _ _) ⟨⟨_, rfl, by have h := (unhide S7).o; rw [unhide HRS] at h; exact h.le (by omega)⟩, (unhide S7).s.be⟩
end Go.Proofs.Ytmnjngkdiinnfaa
