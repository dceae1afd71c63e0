/- trace: the document's Kind, Part, Same; Kinds. -/
import Derived.Test.YthgijdhifhnmfaaTrA
namespace Go.Proofs.Ythgijdhifhnmfaa
open Go.RowKit
set_option linter.unusedVariables false
attribute [local go_sem] Oper.semAt_some

/-- is an event of a kind? -/
def kz (i : Int) (e : Ev) : Bool := decide (e.k = i) || (decide (i = 0) && (decide (e.k < 1) || decide (3 < e.k)))
def kn (l : List Ev) (i : Int) : Nat := l.countP (kz i)
theorem kn_snoc (l : List Ev) (e : Ev) (i : Int) : kn (l ++ [e]) i = kn l i + (if kz i e = true then 1 else 0) := by
  unfold kn
  rw [List.countP_append, List.countP_singleton]
theorem kn_le (l : List Ev) (i : Int) : kn l i ≤ l.length := List.countP_le_length
set_option maxRecDepth 100000 in
set_option maxHeartbeats 2000000 in
theorem kind_any (a0 : Option Addr) (l : List Ev) (c : Nat) (i : Int) (w : World) (hl : EvsAt w a0 l) (hm : l.length ≤ 100000) :
    Calls Try.prog 17 #[.slice a0 l.length c, .int .i64 i] w fun e w' => e = .returned (.int .i64 (kn l i)) ∧ w = w' := by
  have HL := hide hl
  obtain ⟨n, hn⟩ : ∃ n, n = l.length := ⟨_, rfl⟩
  rw [← hn]
  have HN := hide hn
  rw [← hn] at hm
  obtain ⟨r, hr⟩ : ∃ r, r = kn l i := ⟨_, rfl⟩
  rw [← hr]
  have HR := hide hr
  clear hl hn hr
  go_enter Try.func17, Try.ntmps17
  go_wp2_with fail
  go_loopw [5, 6] (fun u v wr => w = wr ∧ ∃ k m : Nat, k ≤ n ∧ u = .int .i64 m ∧ v = .int .i64 k ∧ m = kn (l.take k) i ∧ m ≤ k) (fun _ v _ => n - (intOf v).toNat)
  case atStart => exact ⟨rfl, 0, 0, by omega, rfl, rfl, rfl, by omega⟩
  case round =>
    obtain ⟨rfl, k, m, hk, rfl, rfl, hmk, hmle⟩ := hrel
    have HMK := hide hmk
    clear hmk
    by_cases hlt : k < n
    · have hlt' : k < l.length := by rw [← unhide HN]; exact hlt
      obtain ⟨e, he⟩ : ∃ e, e = l[k] := ⟨_, rfl⟩
      obtain ⟨g, o, rfl, c0, c1, c2⟩ := unhide HL k e (by rw [he]; exact List.getElem?_eq_getElem hlt')
      have HE : Hid (kn (l.take (k + 1)) i = m + (if kz i e = true then 1 else 0)) := by
        show _ = _
        rw [List.take_succ_eq_append_getElem hlt', ← he, kn_snoc, ← unhide HMK]
      have q1 : (k : Int) < n := by omega
      clear he hlt' c1 c2
      obtain ⟨ek, en, et⟩ := e
      dsimp only at c0
      have yes : kz i ⟨ek, en, et⟩ = true → Hid (m + 1 = kn (l.take (k + 1)) i) := fun h => by
        show _ = _
        rw [unhide HE, if_pos h]
      have no : kz i ⟨ek, en, et⟩ = false → Hid (m = kn (l.take (k + 1)) i) := fun h => by
        show _ = _
        rw [unhide HE, h]
        rfl
      by_cases h1 : ek = i
      · have HY := yes (by unfold kz; simp [h1])
        have h1' : (ek == i) = true := by simp [h1]
        clear yes no HE
        go_wp2
        go_roundw
        case rel => exact ⟨by simp, k + 1, m + 1, by omega, by go_num, by go_num, unhide HY, by omega⟩
        case measure => simp [intOf]; omega
      · by_cases h2 : i = 0
        · subst h2
          by_cases h3 : ek < 1
          · have HY := yes (by unfold kz; simp [h3])
            clear yes no HE
            go_wp2
            go_roundw
            case rel => exact ⟨by simp, k + 1, m + 1, by omega, by go_num, by go_num, unhide HY, by omega⟩
            case measure => simp [intOf]; omega
          · by_cases h4 : 3 < ek
            · have HY := yes (by unfold kz; simp [h4])
              clear yes no HE
              go_wp2
              go_roundw
              case rel => exact ⟨by simp, k + 1, m + 1, by omega, by go_num, by go_num, unhide HY, by omega⟩
              case measure => simp [intOf]; omega
            · have HY := no (by unfold kz; simp; omega)
              clear yes no HE
              go_wp2
              go_roundw
              case rel => exact ⟨by simp, k + 1, m, by omega, rfl, by go_num, unhide HY, by omega⟩
              case measure => simp [intOf]; omega
        · have HY := no (by unfold kz; simp [h1, h2])
          clear yes no HE
          go_wp2
          go_roundw
          case rel => exact ⟨by simp, k + 1, m, by omega, rfl, by go_num, unhide HY, by omega⟩
          case measure => simp [intOf]; omega
    · have hkn : k = n := by omega
      have q1 : ¬ (k : Int) < n := by omega
      have e2 : m = r := by
        rw [unhide HMK, unhide HR, hkn, unhide HN, List.take_length]
      subst e2
      clear hkn
      go_wp2
      go_ret
      exact ⟨rfl, rfl⟩
/-- a part of events -/
def pt (l : List Ev) (f t : Int) (k : Nat) : List Ev := ((l.take k).take t.toNat).drop f.toNat
theorem pt_step (l : List Ev) (f t : Int) (k : Nat) (hk : k < l.length) : pt l f t (k + 1) = if f ≤ k ∧ (k : Int) < t then pt l f t k ++ [l[k]] else pt l f t k := by
  unfold pt
  rw [List.take_take, List.take_take]
  by_cases h1 : (k : Int) < t
  · rw [show min t.toNat (k + 1) = k + 1 by omega, show min t.toNat k = k by omega, List.take_succ_eq_append_getElem hk]
    by_cases h2 : f ≤ k
    · rw [if_pos ⟨h2, h1⟩, List.drop_append_of_le_length (by rw [List.length_take]; omega)]
    · rw [if_neg (fun h => h2 h.1), List.drop_eq_nil_of_le (by simp; omega), List.drop_eq_nil_of_le (by rw [List.length_take]; omega)]
  · rw [if_neg (fun h => h1 h.2), show min t.toNat (k + 1) = t.toNat by omega, show min t.toNat k = t.toNat by omega]
theorem pt_len (l : List Ev) (f t : Int) (k : Nat) : (pt l f t k).length ≤ k := by
  unfold pt
  simp
  omega
set_option maxRecDepth 100000 in
set_option maxHeartbeats 2000000 in
theorem rpart_any (a0 : Option Addr) (l : List Ev) (c : Nat) (f t : Int) (w : World) (hl : EvsAt w a0 l) (hm : l.length ≤ 100000) :
    Calls Try.prog 19 #[.slice a0 l.length c, .int .i64 f, .int .i64 t] w fun e w' => ∃ v, e = .returned v ∧ RefR w v (pt l f t l.length) w' := by
  have HL := hide hl
  obtain ⟨n, hn⟩ : ∃ n, n = l.length := ⟨_, rfl⟩
  rw [← hn]
  have HN := hide hn
  rw [← hn] at hm
  obtain ⟨i0, hi, hz0, hz1, hz2⟩ := info_parts Try.infoRe
  have HP0 : Hid (OwnEv 54 w w.heap.size (.slice none 0 0) (pt l f t 0)) := by
    rw [show pt l f t 0 = [] by unfold pt; simp]
    exact World.ownsRow_nil _ _ _ _
  clear hl hn
  go_enter Try.func19, Try.ntmps19
  go_wp2_with fail
  go_loopw [7, 8] (fun lv kv wr => ∃ (k : Nat) (a : Option Addr) (c m : Nat), k ≤ n ∧ kv = .int .i64 k ∧ lv = .slice a m c ∧ m = (pt l f t k).length ∧ RefR w lv (pt l f t k) wr) (fun _ kv _ => n - (intOf kv).toNat)
  case atStart => exact ⟨0, none, 0, 0, by omega, rfl, rfl, by unfold pt; simp, unhide HP0, Below.refl _ _⟩
  case round =>
    obtain ⟨k, a, c2, m, hk, rfl, rfl, hmm, hR⟩ := hrel
    have HR := hide hR
    have HM := hide hmm
    have hmk : m ≤ k := by rw [hmm]; exact pt_len l f t k
    clear hR hmm
    by_cases hlt : k < n
    · have hlt' : k < l.length := by rw [← unhide HN]; exact hlt
      obtain ⟨e, he⟩ : ∃ e, e = l[k] := ⟨_, rfl⟩
      obtain ⟨g, o, rfl, d0, d1, d2⟩ := unhide HL k e (by rw [he]; exact List.getElem?_eq_getElem hlt')
      have c0 := cell_below d0 (unhide HR).be
      have c1 := cell_below d1 (unhide HR).be
      have c3 := cell_below d2 (unhide HR).be
      have hst := pt_step l f t k hlt'
      rw [← he] at hst
      have q1 : (k : Int) < n := by omega
      have hsz := (unhide HR).be.size
      clear he hlt' d0 d1 d2
      by_cases h1 : f ≤ k
      · by_cases h2 : (k : Int) < t
        · rw [if_pos ⟨h1, h2⟩] at hst
          have HE := hide hst
          clear hst
          have HO : Hid (wr.ownsRow w.heap.size 54 3 (.slice a m c2) m (evC (pt l f t k))) := by
            have := (unhide HR).own
            unfold OwnEv at this
            rw [← unhide HM] at this
            exact this
          obtain ⟨ek, en, et⟩ := e
          dsimp only at c0 c1 c3
          go_wp2_with (refine wpList_append_lies _ rfl (.tmp 23) (.tmp 28) 30 rfl w.heap.size 54 i0 (.agg #[.int .i64 0, .int .i64 0, .string ⟨#[]⟩]) 3 32 Try.undRe hi hz0 hz1 hz2 rfl (by decide) (.slice a m c2) m _ (by rfl) ((unhide HO).alloc _) ⟨wr.heap.size, 0, none⟩ 1 1 [.int .i64 ek, .int .i64 en, .string et] (by rfl) (by rfl) (World.news_of_block (heap_alloc_new wr _)) (Ev.one ⟨ek, en, et⟩) (by decide) (by unfold maxLen; omega) (by omega) (by simp; omega) _ rfl ?_)
          intro g2 cap2 w4 hown hgrow hat hlt2
          have HF : Hid (RefR w (.slice (some ⟨g2, 0, none⟩) (m + 1) cap2) (pt l f t (k + 1)) w4) := by
            rw [unhide HE]
            refine ⟨?_, ((unhide HR).be.alloc (unhide HR).be.size (.cells #[.int .i64 ek, .int .i64 en, .string et] 54)).grown hgrow (by simp; omega) (fun z hz => ((unhide HO).lt z hz).1)⟩
            unfold OwnEv
            rw [evC_append, List.length_append, ← unhide HM]
            exact hown
          have HM2 : Hid (m + 1 = (pt l f t (k + 1)).length) := by
            show _ = _
            rw [unhide HE, List.length_append, ← unhide HM]
            rfl
          clear hown hgrow hat hlt2 HO HR
          go_wp2
          go_roundw
          case rel => exact ⟨k + 1, _, _, m + 1, by omega, by go_num, rfl, unhide HM2, unhide HF⟩
          case measure => simp [intOf]; omega
        · rw [if_neg (fun h => h2 h.2)] at hst
          have HF : Hid (RefR w (.slice a m c2) (pt l f t (k + 1)) wr) := by rw [hst]; exact unhide HR
          have HM2 : Hid (m = (pt l f t (k + 1)).length) := by rw [hst]; exact unhide HM
          clear hst HR
          go_wp2
          go_roundw
          case rel => exact ⟨k + 1, _, _, m, by omega, by go_num, rfl, unhide HM2, unhide HF⟩
          case measure => simp [intOf]; omega
      · rw [if_neg (fun h => h1 h.1)] at hst
        have HF : Hid (RefR w (.slice a m c2) (pt l f t (k + 1)) wr) := by rw [hst]; exact unhide HR
        have HM2 : Hid (m = (pt l f t (k + 1)).length) := by rw [hst]; exact unhide HM
        clear hst HR
        go_wp2
        go_roundw
        case rel => exact ⟨k + 1, _, _, m, by omega, by go_num, rfl, unhide HM2, unhide HF⟩
        case measure => simp [intOf]; omega
    · have hkn : k = n := by omega
      have q1 : ¬ (k : Int) < n := by omega
      have HF : Hid (RefR w (.slice a m c2) (pt l f t n) wr) := by
        have h1 := unhide HR
        rw [hkn] at h1
        exact h1
      clear hkn HR
      go_wp2
      go_ret
      exact ⟨_, rfl, unhide HF⟩
set_option maxRecDepth 100000 in
set_option maxHeartbeats 2000000 in
theorem same_eq (a0 b0 : Option Addr) (l : List Ev) (c d : Nat) (w : World) (hl : EvsAt w a0 l) (hl2 : EvsAt w b0 l) (hm : l.length ≤ 100000) :
    Calls Try.prog 13 #[.slice a0 l.length c, .slice b0 l.length d] w fun e w' => e = .returned (.bool true) ∧ Below w.heap.size w w' := by
  have HL := hide hl
  have HL2 := hide hl2
  obtain ⟨n, hn⟩ : ∃ n, n = l.length := ⟨_, rfl⟩
  rw [← hn]
  have HN := hide hn
  rw [← hn] at hm
  clear hl hl2 hn
  go_enter Try.func13, Try.ntmps13
  go_wp2_with fail
  go_loopw [5] (fun v wr => Below w.heap.size w wr ∧ ∃ k : Nat, k ≤ n ∧ v = .int .i64 k) (fun v _ => n - (intOf v).toNat)
  case atStart => exact ⟨Below.refl _ _, 0, by omega, rfl⟩
  case round =>
    obtain ⟨hb, k, hk, rfl⟩ := hrel
    have HB := hide hb
    by_cases hlt : k < n
    · have hlt' : k < l.length := by rw [← unhide HN]; exact hlt
      obtain ⟨e, he⟩ : ∃ e, e = l[k] := ⟨_, rfl⟩
      obtain ⟨g, o, rfl, d0, d1, d2⟩ := unhide HL k e (by rw [he]; exact List.getElem?_eq_getElem hlt')
      obtain ⟨g2, o2, rfl, f0, f1, f2⟩ := unhide HL2 k e (by rw [he]; exact List.getElem?_eq_getElem hlt')
      have c0 := cell_below d0 hb
      have c1 := cell_below d1 hb
      have c2 := cell_below d2 hb
      have e0 := cell_below f0 hb
      have e1 := cell_below f1 hb
      have e2 := cell_below f2 hb
      have q1 : (k : Int) < n := by omega
      clear he hlt' d0 d1 d2 f0 f1 f2 hb
      obtain ⟨ek, en, et⟩ := e
      dsimp only at c0 c1 c2 e0 e1 e2
      go_wp2
      go_region
      go_wp2
      go_roundw
      case rel => exact ⟨⟨(unhide HB).os, (unhide HB).tape, (unhide HB).output, (unhide HB).size, (unhide HB).block⟩, k + 1, by omega, by go_num⟩
      case measure => simp [intOf]; omega
    · have q1 : ¬ (k : Int) < n := by omega
      clear hb
      go_wp2
      go_ret
      exact ⟨rfl, unhide HB⟩
end Go.Proofs.Ythgijdhifhnmfaa
