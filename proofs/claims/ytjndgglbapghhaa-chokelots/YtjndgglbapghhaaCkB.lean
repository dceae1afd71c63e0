/- choke: rows of peers: of the call's own; few, refs. -/
import Derived.Test.YtjndgglbapghhaaOpenPr
namespace Go.Proofs.Ytjndgglbapghhaa
open Go.RowKit
set_option linter.unusedVariables false
attribute [local go_sem] Oper.semAt_some

theorem PrsAt.up {w w' : World} {a0 : Option Addr} {l : List Pr} (h : PrsAt w a0 l) (hb : Below w.heap.size w w') : PrsAt w' a0 l := fun t c ht => by
  obtain ⟨g, o, h1, h2, h3⟩ := h t c ht
  exact ⟨g, o, h1, Nat.lt_of_lt_of_le h2 hb.size, fun j v hv => cell_below (h3 j v hv) hb⟩
/-- the ten cells of one of them -/
theorem prs_range {w : World} {a0 : Option Addr} {l : List Pr} (h : PrsAt w a0 l) {w' : World} (hb : Below w.heap.size w w') {i : Nat} {p : Pr} (hp : l[i]? = some p) :
    ∃ g o, a0 = some ⟨g, o, none⟩ ∧ g < w'.heap.size ∧ w'.rangeAt g (o + i * 10) p.cl := by
  obtain ⟨g, o, h1, h2, h3⟩ := h i p hp
  exact ⟨g, o, h1, Nat.lt_of_lt_of_le h2 hb.size, fun j v hv => cell_below (h3 j v hv) hb⟩
def peC (l : List Pr) : List Value := l.flatMap Pr.cl
theorem peC_append (l m : List Pr) : peC (l ++ m) = peC l ++ peC m := by simp [peC]
theorem peC_get : ∀ (l : List Pr) (t j : Nat) (c : Pr), l[t]? = some c → j < 10 → (peC l)[t * 10 + j]? = c.cl[j]?
  | [], _, _, _, h, _ => by simp at h
  | x :: l, 0, j, c, h, hj => by
    have e : x.cl.length = 10 := rfl
    simp at h
    unfold peC
    rw [List.flatMap_cons, Nat.zero_mul, Nat.zero_add, List.getElem?_append_left (by omega), h]
  | x :: l, t + 1, j, c, h, hj => by
    have e : x.cl.length = 10 := rfl
    unfold peC
    rw [List.flatMap_cons, List.getElem?_append_right (by omega), e, show (t + 1) * 10 + j - 10 = t * 10 + j by omega]
    exact peC_get l t j c (by simpa using h) hj

/-- a row of peers of the call's own, of the element type T -/
def OwnPt (T : TypeId) (w : World) (base : Nat) (v : Value) (l : List Pr) : Prop := w.ownsRow base T 10 v l.length (peC l)
theorem ownPt_shape {T : TypeId} {w : World} {B : Nat} {v : Value} {l : List Pr} (h : OwnPt T w B v l) : ∃ a0 c, v = .slice a0 l.length c := by
  rcases h.2 with ⟨h1, h2⟩ | ⟨g, cap, cur, h1, _⟩
  · exact ⟨none, 0, by rw [h1, h2]⟩
  · exact ⟨_, _, h1⟩
theorem OwnPt.prs {T : TypeId} {w : World} {B : Nat} {v : Value} {l : List Pr} (h : OwnPt T w B v l) : ∃ a0 c, v = .slice a0 l.length c ∧ PrsAt w a0 l := by
  rcases h.2 with ⟨h1, h2⟩ | ⟨g, cap, cur, h1, h2, h3, h4, h5, h6, h7⟩
  · refine ⟨none, 0, by rw [h1, h2], fun t c ht => ?_⟩
    have := (List.getElem?_eq_some_iff.1 ht).1
    omega
  · refine ⟨_, _, h1, fun t c ht => ⟨g, 0, rfl, lt_of_block h3, fun j v hv => ?_⟩⟩
    have hj : j < 10 := (List.getElem?_eq_some_iff.1 hv).1
    have ht' := (List.getElem?_eq_some_iff.1 ht).1
    rw [Nat.zero_add, cell_of_row _ _ _ _ _ _ h3, ← Array.getElem?_toList, ← hv, ← peC_get l t j c ht hj, ← h7, List.getElem?_take, if_pos (by omega)]
theorem ownPt_up {T : TypeId} {w w' : World} {B : Nat} {v : Value} {l : List Pr} (h : OwnPt T w B v l) (hb : Below w.heap.size w w') : OwnPt T w' B v l := by
  refine ⟨h.1, ?_⟩
  rcases h.2 with ⟨h1, h2⟩ | ⟨g, cap, cur, h1, h2, h3, h4⟩
  · exact .inl ⟨h1, h2⟩
  · exact .inr ⟨g, cap, cur, h1, h2, (hb.block g (lt_of_block h3)).trans h3, h4⟩
theorem Try.infoRp : (Try.prog.info? 57).map (fun i => (i.zero, i.size, i.bytes)) = some (some (.agg #[.int .i64 0, .int .i64 0, .int .i64 0, .string ⟨#[]⟩, .bool false, .bool false, .bool false, .int .i64 0, .int .i64 0, .int .i64 0]), 10, 72) := by kernel_rfl
theorem Try.undRp : Try.prog.underlying 35 = some (.slice 57) := by kernel_rfl
/-- a row of the document's peers, new -/
structure RefR (w : World) (v : Value) (l : List Pr) (w' : World) : Prop where
  own : OwnPt 57 w' w.heap.size v l
  be : Below w.heap.size w w'
set_option maxRecDepth 100000 in
set_option maxHeartbeats 2000000 in
theorem refs_any (a0 : Option Addr) (l : List Pr) (c : Nat) (w : World) (hl : PrsAt w a0 l) (hm : l.length ≤ 100000) :
    Calls Try.prog 11 #[.slice a0 l.length c] w fun e w' => ∃ v, e = .returned v ∧ RefR w v l w' := by
  have HL := hide hl
  have hrf := hide (fun (p : Pr) (y : World) => ref18_any p y)
  obtain ⟨n, hn⟩ : ∃ n, n = l.length := ⟨_, rfl⟩
  rw [← hn]
  have HN := hide hn
  rw [← hn] at hm
  obtain ⟨i0, hi, hz0, hz1, hz2⟩ := info_parts Try.infoRp
  clear hl hn
  go_enter Try.func11, Try.ntmps11
  go_wp2_with fail
  go_loopw [3, 4] (fun lv kv wr => ∃ (k : Nat) (a : Option Addr) (c : Nat), k ≤ n ∧ kv = .int .i64 k ∧ lv = .slice a k c ∧ RefR w lv (l.take k) wr) (fun _ kv _ => n - (intOf kv).toNat)
  case atStart => exact ⟨0, none, 0, by omega, rfl, rfl, World.ownsRow_nil _ _ _ _, Below.refl _ _⟩
  case round =>
    obtain ⟨k, a, c2, hk, rfl, rfl, hR⟩ := hrel
    have HR := hide hR
    clear hR
    by_cases hlt : k < n
    · have hlt' : k < l.length := by rw [← unhide HN]; exact hlt
      obtain ⟨e, he⟩ : ∃ e, e = l[k] := ⟨_, rfl⟩
      obtain ⟨g, o, rfl, hgl, hra⟩ := prs_range (unhide HL) (unhide HR).be (i := k) (p := e) (by rw [he]; exact List.getElem?_eq_getElem hlt')
      have HE : Hid (l.take (k + 1) = l.take k ++ [e]) := by
        show _ = _
        rw [List.take_succ_eq_append_getElem hlt', he]
      have HTL : Hid ((l.take k).length = k) := by
        show _ = _
        rw [List.length_take]
        omega
      have q1 : (k : Int) < n := by omega
      clear he hlt'
      obtain ⟨nd, px, py, hv, wa, op, os, se, nw, ra⟩ := e
      have u0 : wr.cell? ⟨g, o + k * 10, none⟩ = some (.int .i64 nd) := hra 0 _ rfl
      have u1 : wr.cell? ⟨g, o + k * 10 + 1, none⟩ = some (.int .i64 px) := hra 1 _ rfl
      have u2 : wr.cell? ⟨g, o + k * 10 + 2, none⟩ = some (.int .i64 py) := hra 2 _ rfl
      have u3 : wr.cell? ⟨g, o + k * 10 + 3, none⟩ = some (.string hv) := hra 3 _ rfl
      have u4 : wr.cell? ⟨g, o + k * 10 + 4, none⟩ = some (.bool wa) := hra 4 _ rfl
      have u5 : wr.cell? ⟨g, o + k * 10 + 5, none⟩ = some (.bool op) := hra 5 _ rfl
      have u6 : wr.cell? ⟨g, o + k * 10 + 6, none⟩ = some (.bool os) := hra 6 _ rfl
      have u7 : wr.cell? ⟨g, o + k * 10 + 7, none⟩ = some (.int .i64 se) := hra 7 _ rfl
      have u8 : wr.cell? ⟨g, o + k * 10 + 8, none⟩ = some (.int .i64 nw) := hra 8 _ rfl
      have u9 : wr.cell? ⟨g, o + k * 10 + 9, none⟩ = some (.int .i64 ra) := hra 9 _ rfl
      have hrfe := hide (unhide hrf ⟨nd, px, py, hv, wa, op, os, se, nw, ra⟩)
      unfold Pr.cl at hrfe
      dsimp only at hrfe
      clear hra
      go_wp2_with fail
      refine (unhide hrfe wr).mono ?_
      rintro e w3 ⟨rfl, b3⟩
      have HR3 : Hid (RefR w (.slice a k c2) (l.take k) w3) := ⟨ownPt_up (unhide HR).own b3, (unhide HR).be.trans (b3.mono (unhide HR).be.size)⟩
      have HO : Hid (w3.ownsRow w.heap.size 57 10 (.slice a k c2) k (peC (l.take k))) := by
        have := (unhide HR3).own
        unfold OwnPt at this
        rw [unhide HTL] at this
        exact this
      have hsz := (unhide HR3).be.size
      clear b3 HR hrfe u0 u1 u2 u3 u4 u5 u6 u7 u8 u9
      go_wp2_with (refine wpList_append_lies _ rfl (.tmp 11) (.tmp 17) 35 rfl w.heap.size 57 i0 (.agg #[.int .i64 0, .int .i64 0, .int .i64 0, .string ⟨#[]⟩, .bool false, .bool false, .bool false, .int .i64 0, .int .i64 0, .int .i64 0]) 10 72 Try.undRp hi hz0 hz1 hz2 rfl (by decide) (.slice a k c2) k _ (by rfl) ((unhide HO).alloc _) ⟨w3.heap.size, 0, none⟩ 1 1 [.int .i64 nd, .int .i64 px, .int .i64 py, .string hv, .bool wa, .bool op, .bool os, .int .i64 se, .int .i64 nw, .int .i64 ra] (by rfl) (by rfl) (World.news_of_block (heap_alloc_new w3 _)) (Pr.cl_one ⟨nd, px, py, hv, wa, op, os, se, nw, ra⟩) (by decide) (by unfold maxLen; omega) (by omega) (by simp; omega) _ rfl ?_)
      intro g2 cap2 w4 hown hgrow hat hlt2
      have HF : Hid (RefR w (.slice (some ⟨g2, 0, none⟩) (k + 1) cap2) (l.take (k + 1)) w4) := by
        rw [unhide HE]
        refine ⟨?_, ((unhide HR3).be.alloc (unhide HR3).be.size (.cells (Array.mk [.int .i64 nd, .int .i64 px, .int .i64 py, .string hv, .bool wa, .bool op, .bool os, .int .i64 se, .int .i64 nw, .int .i64 ra]) 57)).grown hgrow (by simp; omega) (fun z hz => ((unhide HO).lt z hz).1)⟩
        unfold OwnPt
        rw [peC_append, List.length_append, unhide HTL]
        exact hown
      clear hown hgrow hat hlt2 HO HR3
      go_wp2
      go_roundw
      case rel => exact ⟨k + 1, _, _, by omega, by go_num, rfl, unhide HF⟩
      case measure => simp [intOf]; omega
    · have hkn : k = n := by omega
      have q1 : ¬ (k : Int) < n := by omega
      have HF : Hid (RefR w (.slice a k c2) l wr) := by
        have h1 := unhide HR
        rw [show l.take k = l by rw [hkn, unhide HN, List.take_length]] at h1
        exact h1
      clear hkn HR
      go_wp2
      go_ret
      exact ⟨_, rfl, unhide HF⟩
end Go.Proofs.Ytjndgglbapghhaa
