/- trace: events in rows; few, refs, Kind. -/
import Derived.Test.YthgijdhifhnmfaaTxtI
import Derived.Test.YthgijdhifhnmfaaSame
import Derived.BigRegion
import Derived.Deep.MidRow
import Derived.Deep.AppendLies
namespace Go.Proofs.Ythgijdhifhnmfaa
open Go.RowKit
set_option linter.unusedVariables false
attribute [local go_sem] Oper.semAt_some

/-- an event -/
structure Ev where
  k : Int
  n : Int
  t : ByteArray
def Ev.cl (e : Ev) : List Value := [.int .i64 e.k, .int .i64 e.n, .string e.t]
def evC (l : List Ev) : List Value := l.flatMap Ev.cl
theorem evC_append (l m : List Ev) : evC (l ++ m) = evC l ++ evC m := by simp [evC]
theorem Ev.one (e : Ev) : ∀ u ∈ e.cl, u.oneCell' = true := by
  intro u hu
  simp [Ev.cl] at hu
  rcases hu with rfl | rfl | rfl <;> rfl
theorem evC_get : ∀ (l : List Ev) (t j : Nat) (c : Ev), l[t]? = some c → j < 3 → (evC l)[t * 3 + j]? = c.cl[j]?
  | [], _, _, _, h, _ => by simp at h
  | x :: l, 0, j, c, h, hj => by
    have e : x.cl.length = 3 := rfl
    simp at h
    unfold evC
    rw [List.flatMap_cons, Nat.zero_mul, Nat.zero_add, List.getElem?_append_left (by omega), h]
  | x :: l, t + 1, j, c, h, hj => by
    have e : x.cl.length = 3 := rfl
    unfold evC
    rw [List.flatMap_cons, List.getElem?_append_right (by omega), e, show (t + 1) * 3 + j - 3 = t * 3 + j by omega]
    exact evC_get l t j c (by simpa using h) hj
/-- events in a row of cells -/
def EvsAt (w : World) (a0 : Option Addr) (l : List Ev) : Prop := ∀ t c, l[t]? = some c → ∃ g o, a0 = some ⟨g, o, none⟩ ∧ w.cell? ⟨g, o + t * 3, none⟩ = some (.int .i64 c.k) ∧ w.cell? ⟨g, o + t * 3 + 1, none⟩ = some (.int .i64 c.n) ∧ w.cell? ⟨g, o + t * 3 + 2, none⟩ = some (.string c.t)
theorem EvsAt.below {w w' : World} {a0 : Option Addr} {l : List Ev} (h : EvsAt w a0 l) (hb : Below w.heap.size w w') : EvsAt w' a0 l := fun t c ht => by
  obtain ⟨g, o, h1, h2, h3, h4⟩ := h t c ht
  exact ⟨g, o, h1, cell_below h2 hb, cell_below h3 hb, cell_below h4 hb⟩
/-- events of the call's own -/
def OwnEv (T : TypeId) (w : World) (base : Nat) (v : Value) (l : List Ev) : Prop := w.ownsRow base T 3 v l.length (evC l)
theorem OwnEv.evs {T : TypeId} {w : World} {B : Nat} {v : Value} {l : List Ev} (h : OwnEv T w B v l) : ∃ a0 c, v = .slice a0 l.length c ∧ EvsAt w a0 l ∧ l.length ≤ c ∧ c ≤ maxLen := by
  rcases h.2 with ⟨h1, h2⟩ | ⟨g, cap, cur, h1, h2, h3, h4, h5, h6, h7⟩
  · refine ⟨none, 0, by rw [h1, h2], fun t c ht => ?_, by omega, by unfold maxLen; omega⟩
    have := (List.getElem?_eq_some_iff.1 ht).1
    omega
  · refine ⟨_, _, h1, fun t c ht => ⟨g, 0, rfl, ?_⟩, h4, h5⟩
    have ht' := (List.getElem?_eq_some_iff.1 ht).1
    have key : ∀ j v, j < 3 → c.cl[j]? = some v → w.cell? ⟨g, t * 3 + j, none⟩ = some v := fun j v hj hv => by
      rw [cell_of_row _ _ _ _ _ _ h3, ← Array.getElem?_toList, ← hv, ← evC_get l t j c ht hj, ← h7, List.getElem?_take, if_pos (by omega)]
    rw [Nat.zero_add]
    exact ⟨key 0 _ (by omega) rfl, key 1 _ (by omega) rfl, key 2 _ (by omega) rfl⟩
theorem ownEv_shape {T : TypeId} {w : World} {B : Nat} {v : Value} {l : List Ev} (h : OwnEv T w B v l) : ∃ a0 c, v = .slice a0 l.length c := by
  obtain ⟨a0, c, h1, _⟩ := h.evs
  exact ⟨a0, c, h1⟩
/-- events that statements go through -/
def fewB (l : List Ev) (m : Int) : Bool := decide ((l.length : Int) ≤ m) && l.all fun e => decide (e.t.size ≤ 500)
set_option maxRecDepth 100000 in
set_option maxHeartbeats 1000000 in
theorem few_any (a0 : Option Addr) (l : List Ev) (c : Nat) (m : Int) (w : World) (hl : EvsAt w a0 l) (hm : l.length ≤ maxLen) :
    Calls Try.prog 6 #[.slice a0 l.length c, .int .i64 m] w fun e w' => e = .returned (.bool (fewB l m)) ∧ w = w' := by
  unfold maxLen at hm
  have HL := hide hl
  obtain ⟨r, hr⟩ : ∃ r, r = fewB l m := ⟨_, rfl⟩
  rw [← hr]
  have HR := hide hr
  obtain ⟨n, hn⟩ : ∃ n, n = l.length := ⟨_, rfl⟩
  rw [← hn]
  have HN := hide hn
  rw [← hn] at hm
  clear hl hr hn
  by_cases hc : m < n
  · have e : r = false := by
      rw [unhide HR]
      unfold fewB
      rw [← unhide HN, decide_eq_false (by omega)]
      rfl
    subst e
    go_enter Try.func6, Try.ntmps6
    go_wp2
    go_ret
    exact ⟨rfl, rfl⟩
  · go_enter Try.func6, Try.ntmps6
    go_wp2_with fail
    go_loopw [5] (fun v wr => w = wr ∧ ∃ k : Nat, k ≤ n ∧ v = .int .i64 k ∧ (l.take k).all (fun e => decide (e.t.size ≤ 500)) = true) (fun v _ => n - (intOf v).toNat)
    case atStart => exact ⟨rfl, 0, by omega, rfl, rfl⟩
    case round =>
      obtain ⟨rfl, k, hk, rfl, ha⟩ := hrel
      have HA := hide ha
      clear ha
      by_cases hlt : k < n
      · have hlt' : k < l.length := by rw [← unhide HN]; exact hlt
        obtain ⟨e, he⟩ : ∃ e, e = l[k] := ⟨_, rfl⟩
        obtain ⟨g, o, rfl, c0, c1, c2⟩ := unhide HL k e (by rw [he]; exact List.getElem?_eq_getElem hlt')
        have HE : Hid (e ∈ l ∧ l.take (k + 1) = l.take k ++ [e]) := ⟨by rw [he]; exact List.getElem_mem _, by rw [List.take_succ_eq_append_getElem hlt', he]⟩
        obtain ⟨t, ht⟩ : ∃ t, t = e.t := ⟨_, rfl⟩
        rw [← ht] at c2
        have HT := hide ht
        have q1 : (k : Int) < n := by omega
        clear he ht c0 c1 hlt'
        by_cases hs : (500 : Int) < t.size
        · have e2 : r = false := by
            rw [unhide HR]
            unfold fewB
            have hx : (l.all fun e => decide (e.t.size ≤ 500)) = false := by
              rw [List.all_eq_false]
              refine ⟨e, ?_, ?_⟩
              · exact (unhide HE).1
              · rw [← unhide HT]; simp; omega
            rw [hx, Bool.and_false]
          subst e2
          go_wp2
          go_ret
          exact ⟨rfl, rfl⟩
        · have HA2 : Hid ((l.take (k + 1)).all (fun e => decide (e.t.size ≤ 500)) = true) := by
            show _ = _
            rw [(unhide HE).2, List.all_append, unhide HA]
            simp
            rw [← unhide HT]
            omega
          go_wp2
          go_roundw
          case rel => exact ⟨by simp, k + 1, by omega, by go_num, unhide HA2⟩
          case measure => simp [intOf]; omega
      · have hkn : k = n := by omega
        have q1 : ¬ (k : Int) < n := by omega
        have e2 : r = true := by
          have h1 := unhide HA
          rw [hkn, unhide HN, List.take_length] at h1
          rw [unhide HR]
          unfold fewB
          rw [h1, ← unhide HN, decide_eq_true (by omega)]
          rfl
        subst e2
        clear hkn
        go_wp2
        go_ret
        exact ⟨rfl, rfl⟩
theorem Try.infoRe : (Try.prog.info? 54).map (fun i => (i.zero, i.size, i.bytes)) = some (some (.agg #[.int .i64 0, .int .i64 0, .string ⟨#[]⟩]), 3, 32) := by kernel_rfl
theorem Try.undRe : Try.prog.underlying 30 = some (.slice 54) := by kernel_rfl
/-- a row of the document's events, new -/
structure RefR (w : World) (v : Value) (l : List Ev) (w' : World) : Prop where
  own : OwnEv 54 w' w.heap.size v l
  be : Below w.heap.size w w'
set_option maxRecDepth 100000 in
set_option maxHeartbeats 2000000 in
theorem refs_any (a0 : Option Addr) (l : List Ev) (c : Nat) (w : World) (hl : EvsAt w a0 l) (hm : l.length ≤ 100000) :
    Calls Try.prog 10 #[.slice a0 l.length c] w fun e w' => ∃ v, e = .returned v ∧ RefR w v l w' := by
  have HL := hide hl
  obtain ⟨n, hn⟩ : ∃ n, n = l.length := ⟨_, rfl⟩
  rw [← hn]
  have HN := hide hn
  rw [← hn] at hm
  obtain ⟨i0, hi, hz0, hz1, hz2⟩ := info_parts Try.infoRe
  clear hl hn
  go_enter Try.func10, Try.ntmps10
  go_wp2_with fail
  go_loopw [3, 4] (fun lv kv wr => ∃ (k : Nat) (a : Option Addr) (c : Nat), k ≤ n ∧ kv = .int .i64 k ∧ lv = .slice a k c ∧ RefR w lv (l.take k) wr) (fun _ kv _ => n - (intOf kv).toNat)
  case atStart => exact ⟨0, none, 0, by omega, rfl, rfl, World.ownsRow_nil _ _ _ _, Below.refl _ _⟩
  case round =>
    obtain ⟨k, a, c2, hk, rfl, rfl, hR⟩ := hrel
    have HR := hide hR
    clear hR
    by_cases hlt : k < n
    · have hlt' : k < l.length := by rw [← unhide HN]; exact hlt
      obtain ⟨e, he⟩ : ∃ e, e = l[k] := ⟨_, rfl⟩
      obtain ⟨g, o, rfl, d0, d1, d2⟩ := unhide HL k e (by rw [he]; exact List.getElem?_eq_getElem hlt')
      have c0 := cell_below d0 (unhide HR).be
      have c1 := cell_below d1 (unhide HR).be
      have c3 := cell_below d2 (unhide HR).be
      have HE : Hid (l.take (k + 1) = l.take k ++ [e]) := by
        show _ = _
        rw [List.take_succ_eq_append_getElem hlt', he]
      have HTL : Hid ((l.take k).length = k) := by
        show _ = _
        rw [List.length_take]
        omega
      have HO : Hid (wr.ownsRow w.heap.size 54 3 (.slice a k c2) k (evC (l.take k))) := by
        have := (unhide HR).own
        unfold OwnEv at this
        rw [unhide HTL] at this
        exact this
      have hsz := (unhide HR).be.size
      have q1 : (k : Int) < n := by omega
      clear he hlt' d0 d1 d2
      obtain ⟨ek, en, et⟩ := e
      dsimp only at c0 c1 c3
      go_wp2_with (refine wpList_append_lies _ rfl (.tmp 11) (.tmp 16) 30 rfl w.heap.size 54 i0 (.agg #[.int .i64 0, .int .i64 0, .string ⟨#[]⟩]) 3 32 Try.undRe hi hz0 hz1 hz2 rfl (by decide) (.slice a k c2) k _ (by rfl) ((unhide HO).alloc _) ⟨wr.heap.size, 0, none⟩ 1 1 [.int .i64 ek, .int .i64 en, .string et] (by rfl) (by rfl) (World.news_of_block (heap_alloc_new wr _)) (Ev.one ⟨ek, en, et⟩) (by decide) (by unfold maxLen; omega) (by omega) (by simp; omega) _ rfl ?_)
      intro g2 cap2 w4 hown hgrow hat hlt2
      have HF : Hid (RefR w (.slice (some ⟨g2, 0, none⟩) (k + 1) cap2) (l.take (k + 1)) w4) := by
        rw [unhide HE]
        refine ⟨?_, ((unhide HR).be.alloc (unhide HR).be.size (.cells #[.int .i64 ek, .int .i64 en, .string et] 54)).grown hgrow (by simp; omega) (fun z hz => ((unhide HO).lt z hz).1)⟩
        unfold OwnEv
        rw [evC_append, List.length_append, unhide HTL]
        exact hown
      clear hown hgrow hat hlt2 HO HR
      go_wp2
      go_roundw
      case rel => exact ⟨k + 1, _, _, by omega, by go_num, rfl, unhide HF⟩
      case measure => simp [intOf]; omega
    · have hkn : k = n := by omega
      have q1 : ¬ (k : Int) < n := by omega
      have HF : Hid (RefR w (.slice a k c2) l wr) := by
        have h1 := unhide HR
        rw [show l.take k = l by rw [hkn, unhide HN, List.take_length]] at h1
        exact h1
      clear hkn HR
      go_wp2
      go_ret
      exact ⟨_, rfl, unhide HF⟩
end Go.Proofs.Ythgijdhifhnmfaa
