/- choke: Turns. -/
import Derived.Laws.EntriesVeiled
import Derived.Test.YtjndgglbapghhaaCkX
namespace Go.Proofs.Ytjndgglbapghhaa
open Go.RowKit Go.Sort
set_option linter.unusedVariables false
attribute [local go_sem] Oper.semAt_some

structure TurR (w : World) (v1 v2 : Value) (t1 t2 : List Int) (w' : World) : Prop where
  on : OwnI w' w.heap.size v1 t1
  off : OwnI w' w.heap.size v2 t2
  be : Below w.heap.size w w'
set_option maxRecDepth 100000 in
set_option maxHeartbeats 4000000 in
theorem turns_any (a0 : Option Addr) (l : List Pr) (c : Nat) (b0 : Option Addr) (ch : List Int) (d : Nat) (w : World) (hl : PrsAt w a0 l) (hm : l.length ≤ 1000) (hk : ∀ p ∈ l, (Lit.int .i64 p.nd).wf = true) (hI : Ints w b0 ch) (hc : ch.length ≤ 1000) (hck : ∀ x ∈ ch, (Lit.int .i64 x).wf = true) :
    Calls Try.prog 17 #[.slice a0 l.length c, .slice b0 ch.length d] w fun e w' => ∃ v1 v2, e = .returned (.tuple #[v1, v2]) ∧ TurR w v1 v2 (tuL ch true l) (tuL ch false l) w' := by
  have HOn := hide (fun W fb cb b n (hW : Below w.heap.size w W) (h : FuS W fb cb b n ch) => those_on fb a0 l c (tuP ch true) W (hl.up hW) (by omega) (fun p hp W' h' => turns2_any fb cb b n ch p W' (h.up h') (hk p hp)))
  have HOff := hide (fun W fb cb b n (hW : Below w.heap.size w W) (h : FuS W fb cb b n ch) => those_off fb a0 l c (tuP ch false) W (hl.up hW) (by omega) (fun p hp W' h' => turns3_any fb cb b n ch p W' (h.up h') (hk p hp)))
  have hN : ∀ (P : Pr → Bool) (W : World) (v : Value) (B : Nat), OwnPt 48 W B v (l.filter P) → Calls Try.prog 32 #[v] W fun e w' => ∃ v, e = .returned v ∧ OwnI w' W.heap.size v (ndL (l.filter P)) ∧ Below W.heap.size W w' := fun P W v B h => by
    obtain ⟨a, cc, rfl, hp⟩ := h.prs
    exact nodes_any a (l.filter P) cc W hp (by have := List.length_filter_le P l; omega)
  have HN := hide hN
  have HI := hide hI
  have HCK := hide hck
  clear hl hm hk hI hck hN
  generalize l.length = m at *
  obtain ⟨n, hn⟩ : ∃ n, n = ch.length := ⟨_, rfl⟩
  rw [← hn] at hc ⊢
  have HNN := hide hn
  clear hn
  have hmm := @run_makeMap Try.prog
  have hS0 : TuS ((w.alloc (.map #[] 0)).alloc (.cells #[.map (some w.heap.size)] 68)) (w.heap.size + 1) w.heap.size 0 [] := by
    refine ⟨?_, .map [], (World.ownsMap_made w _ _ _).alloc _, KM.nil⟩
    have h := one_alloc (w.alloc (.map #[] 0)) (.map (some w.heap.size)) 68
    rwa [show (w.alloc (.map #[] 0)).heap.size = w.heap.size + 1 by simp] at h
  have HS0 := hide hS0
  have HB0 : Hid (Below w.heap.size w ((w.alloc (.map #[] 0)).alloc (.cells #[.map (some w.heap.size)] 68))) := ((Below.refl _ w).alloc (Nat.le_refl _) _).alloc (by simp) _
  clear hS0
  go_enter Try.func17, Try.ntmps17
  go_wp2_with fail
  go_loopw [13] (fun kv wr => ∃ k : Nat, k ≤ n ∧ kv = .int .i64 k ∧ TuS wr (w.heap.size + 1) w.heap.size k (ch.take k) ∧ Below w.heap.size w wr) (fun kv _ => n - (intOf kv).toNat)
  case atStart => exact ⟨0, by omega, rfl, unhide HS0, unhide HB0⟩
  case round =>
    clear HS0 HB0
    obtain ⟨k, hkn, rfl, hS, hB⟩ := hrel
    have HS := hide hS
    have HB := hide hB
    have c0 := hS.one.c0
    have hcl := hS.one.lt
    obtain ⟨D, hM, hD⟩ := hS.map
    have HM := hide hM
    have HD := hide hD
    clear hS hB hM hD
    by_cases hlt : k < n
    · have hlt' : k < ch.length := by rw [← unhide HNN]; exact hlt
      obtain ⟨g, o, rfl, hx⟩ := unhide HI k hlt'
      have hx2 := cell_below hx (unhide HB)
      have HKX := hide (unhide HCK _ (List.getElem_mem hlt'))
      have HT : Hid (ch.take (k + 1) = ch.take k ++ [ch[k]]) := List.take_succ_eq_append_getElem hlt'
      generalize ch[k] = x at *
      have q1 : (k : Int) < n := by omega
      clear hx hlt'
      go_wp2_with (at_mapUpdate; refine wpList_mapUpdate_own _ rfl _ _ _ 68 rfl 3 69 keyed Try.underlying68 stE w.heap.size k D rfl (unhide HM) (by unfold maxLen; omega) _ _ (kI x) rfl rfl (keyOf_k (unhide HKX)) _ [] rfl ?_)
      intro w3 hM3 hg3
      have hb3 : Below w.heap.size w w3 := (unhide HB).trans ⟨hg3.os, hg3.tape, hg3.output, hg3.size, fun i hi => hg3.block i (by have := (unhide HB).size; omega) (fun e => by cases e; omega)⟩
      have hS3 : TuS w3 (w.heap.size + 1) w.heap.size (k + 1) (ch.take (k + 1)) := by
        refine ⟨(hg3.block _ hcl (fun e => by have := Option.some.inj e; omega)).trans (unhide HS).one, _, hM3, ?_⟩
        rw [unhide HT]
        exact (unhide HD).put x
      have HS3 := hide hS3
      have HB3 := hide hb3
      clear hM3 hg3 hb3 hS3 HM HD c0 hcl hx2
      go_wp2
      go_roundw
      case rel => exact ⟨k + 1, by omega, by go_num, unhide HS3, unhide HB3⟩
      case measure => simp [intOf]; omega
    · have hkl : k = n := by omega
      have q1 : ¬ (k : Int) < n := by omega
      have hS := unhide HS
      rw [show ch.take k = ch by rw [hkl, unhide HNN, List.take_length]] at hS
      have b1 : Below wr.heap.size wr (wr.alloc (.cells #[.func (.func 36) #[] #[.pointer (some ⟨w.heap.size + 1, 0, none⟩)]] 54)) := (Below.refl _ wr).alloc (Nat.le_refl _) _
      have HF := hide (show FuS _ wr.heap.size (w.heap.size + 1) w.heap.size k ch from ⟨one_alloc wr (.func (.func 36) #[] #[.pointer (some ⟨w.heap.size + 1, 0, none⟩)]) 54, hS.up b1⟩)
      have HB1 := hide ((unhide HB).trans (b1.mono (unhide HB).size))
      have HX := hide (unhide HOn _ _ _ _ _ (unhide HB1) (unhide HF))
      clear hS b1 hkl HS HM HD c0 hcl
      go_wp2_with fail
      refine (unhide HX).mono ?_
      rintro e w2 ⟨v2, rfl, o2, b2⟩
      have HB2 := hide ((unhide HB1).trans (b2.mono (unhide HB1).size))
      have HF2 := hide ((unhide HF).up b2)
      have HY := hide (unhide HN _ _ _ _ o2)
      clear o2 b2 HX HF HB1 HB
      go_wp2_with fail
      refine (unhide HY).mono ?_
      rintro e w3 ⟨v3, rfl, o3, b3⟩
      have HB3 := hide ((unhide HB2).trans (b3.mono (unhide HB2).size))
      have HF3 := hide ((unhide HF2).up b3)
      have HO3 := hide (own_i_le o3 (unhide HB2).size)
      have HX := hide (unhide HOff _ _ _ _ _ (unhide HB3) (unhide HF3))
      clear o3 b3 HY HF2 HB2
      go_wp2_with fail
      refine (unhide HX).mono ?_
      rintro e w4 ⟨v4, rfl, o4, b4⟩
      have HB4 := hide ((unhide HB3).trans (b4.mono (unhide HB3).size))
      have HO4 := hide (own_i_up (unhide HO3) b4)
      have HY := hide (unhide HN _ _ _ _ o4)
      clear o4 b4 HX HF3 HB3 HO3
      go_wp2_with fail
      refine (unhide HY).mono ?_
      rintro e w5 ⟨v5, rfl, o5, b5⟩
      have HR := hide (show TurR w v3 v5 (tuL ch true l) (tuL ch false l) w5 from ⟨own_i_up (unhide HO4) b5, own_i_le o5 (unhide HB4).size, (unhide HB4).trans (b5.mono (unhide HB4).size)⟩)
      clear o5 b5 HY HB4 HO4
      go_wp2
      go_ret2
      exact ⟨_, _, rfl, unhide HR⟩
end Go.Proofs.Ytjndgglbapghhaa
