/- net: rows of mails; List, To. -/
import Derived.Test.YtmnjngkdiinnfaaNtK
namespace Go.Proofs.Ytmnjngkdiinnfaa
open Go.RowKit
set_option linter.unusedVariables false
attribute [local go_sem] Oper.semAt_some

theorem Try.infoMl : (Try.prog.info? 72).map (fun i => (i.zero, i.size, i.bytes)) = some (some (.agg #[.int .i64 0, .int .i64 0, .int .i64 0, .string ⟨#[]⟩]), 4, 40) := by kernel_rfl
theorem Try.undMl : Try.prog.underlying 50 = some (.slice 72) := by kernel_rfl
theorem Try.infoMr : (Try.prog.info? 37).map (fun i => (i.zero, i.size, i.bytes)) = some (some (.agg #[.int .i64 0, .int .i64 0, .int .i64 0, .string ⟨#[]⟩]), 4, 40) := by kernel_rfl
theorem Try.undMr : Try.prog.underlying 26 = some (.slice 37) := by kernel_rfl
/-- the cells of a mail, of a row of such -/
def mlL (r : Mg) : List Value := [.int .i64 r.id, .int .i64 r.fr, .int .i64 r.to, .string r.tx]
abbrev mlV (r : Mg) : Value := .agg #[.int .i64 r.id, .int .i64 r.fr, .int .i64 r.to, .string r.tx]
theorem mlL_one (r : Mg) : ∀ u ∈ mlL r, u.oneCell' = true := by
  intro u hu
  simp [mlL] at hu
  rcases hu with rfl | rfl | rfl | rfl <;> rfl
def mlF (l : List Mg) : List Value := l.flatMap mlL
theorem mlF_append (l m : List Mg) : mlF (l ++ m) = mlF l ++ mlF m := by simp [mlF]
theorem mlF_get : ∀ (l : List Mg) (t j : Nat) (c : Mg), l[t]? = some c → j < 4 → (mlF l)[t * 4 + j]? = (mlL c)[j]?
  | [], t, j, c, h, _ => by simp at h
  | a :: l, 0, j, c, h, hj => by
    simp at h
    subst h
    show (mlL a ++ mlF l)[0 * 4 + j]? = _
    rw [List.getElem?_append_left (by simp [mlL]; omega)]
    simp
  | a :: l, t + 1, j, c, h, hj => by
    show (mlL a ++ mlF l)[(t + 1) * 4 + j]? = _
    rw [List.getElem?_append_right (by simp [mlL]; omega), show (t + 1) * 4 + j - (mlL a).length = t * 4 + j by simp [mlL]; omega]
    exact mlF_get l t j c (by simpa using h) hj
/-- a row of mails of the caller's own, of a type of mails -/
def OwnM (T : TypeId) (w : World) (B : Nat) (v : Value) (l : List Mg) : Prop := w.ownsRow B T 4 v l.length (mlF l)
def MlsAt (w : World) (a0 : Option Addr) (l : List Mg) : Prop := ∀ t c, l[t]? = some c → ∃ g, a0 = some ⟨g, 0, none⟩ ∧ w.rangeAt g (t * 4) (mlL c)
theorem OwnM.mls {T : TypeId} {w : World} {B : Nat} {v : Value} {l : List Mg} (h : OwnM T w B v l) : ∃ a0 c, v = .slice a0 l.length c ∧ MlsAt w a0 l := by
  rcases h.2 with ⟨h1, h2⟩ | ⟨g, cap, cur, h1, h2, h3, h4, h5, h6, h7⟩
  · refine ⟨none, 0, by rw [h1, h2], fun t c ht => ?_⟩
    have := (List.getElem?_eq_some_iff.1 ht).1
    omega
  · refine ⟨_, _, h1, fun t c ht => ⟨g, rfl, fun j v hv => ?_⟩⟩
    have hj : j < 4 := (List.getElem?_eq_some_iff.1 hv).1
    have ht' := (List.getElem?_eq_some_iff.1 ht).1
    rw [cell_of_row _ _ _ _ _ _ h3, ← Array.getElem?_toList, ← hv, ← mlF_get l t j c ht hj, ← h7, List.getElem?_take, if_pos (by omega)]
theorem OwnM.up {T : TypeId} {w w' : World} {B : Nat} {v : Value} {l : List Mg} (h : OwnM T w B v l) (hb : ∀ (k : Nat) (cs : Array Value), w.heap[k]? = some (.cells cs T (0, 0)) → w'.heap[k]? = w.heap[k]?) : OwnM T w' B v l := by
  refine ⟨h.1, ?_⟩
  rcases h.2 with ⟨h1, h2⟩ | ⟨g, cap, cur, h1, h2, h3, h4⟩
  · exact .inl ⟨h1, h2⟩
  · exact .inr ⟨g, cap, cur, h1, h2, (hb _ _ h3).trans h3, h4⟩
theorem OwnM.below {T : TypeId} {w w' : World} {B : Nat} {v : Value} {l : List Mg} (h : OwnM T w B v l) (hb : Below w.heap.size w w') : OwnM T w' B v l := h.up fun k cs hk => hb.block k (lt_of_block hk)
theorem OwnM.kn {T : TypeId} {w w' : World} {B B' : Nat} {v : Value} {l : List Mg} (h : OwnM T w B v l) (hb : KN B' w w') (h1 : T ≠ 66) (h2 : T ≠ 3) : OwnM T w' B v l := h.up fun k cs hk => hb.typ k cs _ _ hk h1 h2
theorem OwnM.le {T : TypeId} {w : World} {B B' : Nat} {v : Value} {l : List Mg} (h : OwnM T w B v l) (hb : B' ≤ B) : OwnM T w B' v l := ⟨h.1, h.2.imp id fun ⟨g, cap, cur, h1, h2, h3⟩ => ⟨g, cap, cur, h1, Nat.le_trans hb h2, h3⟩⟩
theorem own_m_alloc {T : TypeId} {w : World} {B n : Nat} {v : Value} {xs : List Value} (h : w.ownsRow B T 4 v n xs) (o : Obj) : (w.alloc o).ownsRow B T 4 v n xs := by
  refine ⟨h.1, ?_⟩
  rcases h.2 with ⟨h1, h2⟩ | ⟨g, cap, cur, h1, h2, h3, h4⟩
  · exact .inl ⟨h1, h2⟩
  · exact .inr ⟨g, cap, cur, h1, h2, (Below.heap_alloc _ _ _ (lt_of_block h3)).trans h3, h4⟩
theorem MlsAt.up {w w' : World} {a0 : Option Addr} {l : List Mg} (h : MlsAt w a0 l) (hb : Below w.heap.size w w') : MlsAt w' a0 l := fun t c ht => by
  obtain ⟨g, h1, h2⟩ := h t c ht
  exact ⟨g, h1, fun j v hv => cell_below (h2 j v hv) hb⟩
theorem own_m_ge {T : TypeId} {w : World} {B : Nat} {v : Value} {l : List Mg} (h : OwnM T w B v l) {k : Nat} (hk : v.ownBlock = some k) : B ≤ k := by
  rcases h.2 with ⟨h1, _⟩ | ⟨g, cap, cur, h1, h2, _⟩
  · rw [h1] at hk; cases hk
  · rw [h1] at hk
    simp only [Value.ownBlock, Option.some.injEq] at hk
    omega
set_option maxRecDepth 100000 in
set_option maxHeartbeats 2000000 in
theorem nlist_any (B b : Nat) (room last : Int) (rs : List Mg) (w : World) (hS : Nt w B b room last rs) :
    Calls Try.prog 21 #[.pointer (some ⟨b, 0, none⟩)] w fun e w' => ∃ v, e = .returned v ∧ OwnM 72 w' w.heap.size v rs ∧ Below w.heap.size w w' := by
  obtain ⟨mb, iv, hS⟩ := hS
  have HS := hide hS
  obtain ⟨aI, cI, hiv, hI, _, _⟩ := OwnI.ints hS.idv
  rw [List.length_map] at hiv
  subst hiv
  have HI := hide hI
  have hlen : (rs.length : Int) ≤ 600 := by have := hS.len; have := hS.room2; omega
  obtain ⟨k0, hki, hkz0, hkz1, hkz2⟩ := info_parts Try.infoMl
  obtain ⟨p0, p1, p2, p3, fp⟩ := cells4 hS.blk
  obtain ⟨n, hn⟩ : ∃ n, rs.length = n := ⟨_, rfl⟩
  rw [hn] at p3 hlen
  have HN := hide hn
  clear hS hI hn
  go_enter Try.func21, Try.ntmps21
  go_wp2_with fail
  go_loopw [3, 13] (fun lv kv wr => ∃ k : Nat, k ≤ n ∧ kv = .int .i64 k ∧ OwnM 72 wr w.heap.size lv (rs.take k) ∧ Below w.heap.size w wr) (fun _ kv _ => n - (intOf kv).toNat)
  case atStart => exact ⟨0, by omega, rfl, by rw [List.take_zero]; exact World.ownsRow_nil _ _ _ _, Below.refl _ _⟩
  case round =>
    clear p0 p1 p2 p3 fp
    obtain ⟨k, hk, rfl, ho, hb⟩ := hrel
    obtain ⟨aL, cL, rfl, _⟩ := ho.mls
    have htk : (rs.take k).length = k := by rw [List.length_take, unhide HN]; omega
    rw [htk] at ho ⊢
    have HO := hide ho
    have HB := hide hb
    clear ho hb
    by_cases hlt : k < n
    · have q1 : (k : Int) < n := by omega
      have hkl : k < rs.length := by rw [unhide HN]; exact hlt
      have hSr := (unhide HS).kept (unhide HB)
      obtain ⟨D, hM, hD⟩ := hSr.map
      have HM := hide hM
      have HD := hide hD
      obtain ⟨p0, p1, p2, p3, fp⟩ := cells4 hSr.blk
      have hIr := (unhide HI).below (unhide HB)
      obtain ⟨gI, oI, rfl, cI0⟩ := hIr k (by rw [List.length_map]; exact hkl)
      have hidk : (rs.map Mg.id)[k]'(by rw [List.length_map]; exact hkl) = (rs[k]).id := by rw [List.getElem_map]
      rw [hidk] at cI0
      have hmem : rs[k] ∈ rs := List.getElem_mem hkl
      have hkw : (Lit.int .i64 (rs[k]).id).wf = true := WalkArith.wf_i64 (by have := hSr.ids _ hmem; have := hSr.last1; omega)
      have HTK : Hid (rs.take (k + 1) = rs.take k ++ [rs[k]]) := List.take_succ_eq_append_getElem hkl
      obtain ⟨x, hx⟩ : ∃ x, x = rs[k] := ⟨_, rfl⟩
      rw [← hx] at cI0 hmem hkw HTK
      obtain ⟨xi, xf, xt, xx⟩ := x
      dsimp only at cI0 hkw
      have HX := hide hmem
      have HKW := hide hkw
      have hwx := (unhide HB).size
      have HR : Hid (wr.ownsRow w.heap.size 72 4 (.slice aL k cL) k (mlF (rs.take k))) := by
        have := unhide HO
        unfold OwnM at this
        rw [htk] at this
        exact this
      clear hSr hM hD hIr hidk hmem hkw hx hkl
      go_wp2_with (first
        | (at_lookup; refine wpList_look1_st _ rfl _ _ rfl mb last.toNat D rs (unhide HD) rfl (unhide HM) ⟨xi, xf, xt, xx⟩ (unhide HX) rfl (unhide HKW) ?_)
        | (refine wpList_append_lies _ rfl (.tmp 17) (.tmp 26) 50 rfl w.heap.size 72 k0 (.agg #[.int .i64 0, .int .i64 0, .int .i64 0, .string ⟨#[]⟩]) 4 40 Try.undMl hki hkz0 hkz1 hkz2 rfl (by decide) (.slice aL k cL) k _ (by rfl) (own_m_alloc (unhide HR) _) ⟨wr.heap.size, 0, none⟩ 1 1 [.int .i64 xi, .int .i64 xf, .int .i64 xt, .string xx] (by rfl) (by rfl) (World.news_of_block (heap_alloc_new wr _)) (mlL_one ⟨xi, xf, xt, xx⟩) (by decide) (by unfold maxLen; omega) (by omega) (by simp; omega) _ rfl ?_))
      intro g2 cap2 w5 hown hgrow hat hlt2
      have hO5 : OwnM 72 w5 w.heap.size (.slice (some ⟨g2, 0, none⟩) (k + 1) cap2) (rs.take (k + 1)) := by
        unfold OwnM
        rw [unhide HTK, mlF_append, List.length_append, htk]
        exact hown
      have hB5 : Below w.heap.size w w5 := ((unhide HB).alloc hwx _).grown hgrow (by simp; omega) (fun z hz => own_m_ge (unhide HO) hz)
      have HO5 := hide hO5
      have HB5 := hide hB5
      clear hown hgrow hat hlt2 hO5 hB5 HO HB HR htk
      go_wp2
      go_roundw
      case rel => exact ⟨k + 1, by omega, by go_num, unhide HO5, unhide HB5⟩
      case measure => simp [intOf]; omega
    · obtain rfl : k = n := by omega
      have q1 : ¬ (k : Int) < k := by omega
      have hfull : rs.take k = rs := List.take_of_length_le (by rw [unhide HN]; exact Nat.le_refl _)
      have HO2 : Hid (OwnM 72 wr w.heap.size (.slice aL k cL) rs) := by
        have := unhide HO
        rw [hfull] at this
        exact this
      clear hfull HO htk
      go_wp2
      go_ret
      exact ⟨_, rfl, unhide HO2, unhide HB⟩
end Go.Proofs.Ytmnjngkdiinnfaa
