/- tracker: the places of notes. -/
import Derived.Test.YtjdphcjapdklpaaTkW
namespace Go.Proofs.Ytjdphcjapdklpaa
open Go.RowKit
set_option linter.unusedVariables false
attribute [local go_sem] Oper.semAt_some

theorem Try.infoPl : (Try.prog.info? 23).map (fun i => (i.zero, i.size, i.bytes)) = some (some (.agg #[.int .i64 0, .int .i64 0]), 2, 16) := by kernel_rfl
theorem Try.undPl : Try.prog.underlying 68 = some (.slice 23) := by kernel_rfl
def plC (l : List (Int × Int)) : List Value := l.flatMap fun p => [.int .i64 p.1, .int .i64 p.2]
theorem plC_app (l m : List (Int × Int)) : plC (l ++ m) = plC l ++ plC m := by unfold plC; exact List.flatMap_append
def OwnPl (w : World) (base : Nat) (v : Value) (l : List (Int × Int)) : Prop := w.ownsRow base 23 2 v l.length (plC l)
def Nt.pl (p : Nt) : Int × Int := (p.x, p.y)
theorem pls_ge {w : World} {base : Nat} {v : Value} {l : List (Int × Int)} (h : OwnPl w base v l) {z : Nat} (hz : v.ownBlock = some z) : base ≤ z := by
  rcases (show World.ownsRow _ _ _ _ _ _ _ from h).2 with ⟨rfl, h0⟩ | ⟨g, cap, cur, rfl, hb, _⟩
  · simp [Value.ownBlock] at hz
  · simp [Value.ownBlock] at hz
    omega
set_option maxRecDepth 100000 in
set_option maxHeartbeats 4000000 in
theorem placesOf_any (a0 : Option Addr) (l : List Nt) (c : Nat) (w : World) (hA : NtsAt w a0 l) (hl : l.length ≤ 100000) :
    Calls Try.prog 29 #[.slice a0 l.length c] w fun e w' => ∃ v, e = .returned v ∧ OwnPl w' w.heap.size v (l.map Nt.pl) ∧ Below w.heap.size w w' := by
  obtain ⟨i0, hi, hz0, hz1, hz2⟩ := info_parts Try.infoPl
  have HA := hide hA
  obtain ⟨n, hn⟩ : ∃ n, n = l.length := ⟨_, rfl⟩
  rw [← hn] at hl ⊢
  have HN := hide hn
  clear hn hA
  obtain ⟨L, hL⟩ : ∃ L, L = l.map Nt.pl := ⟨_, rfl⟩
  rw [← hL]
  have HL := hide hL
  clear hL
  go_enter Try.func29, Try.ntmps29
  go_wp2_with fail
  go_loopw [3, 8] (fun lv kv wr => ∃ (i : Nat) (a : Option Addr) (cc : Nat), i ≤ n ∧ kv = .int .i64 i ∧ lv = .slice a i cc ∧ OwnPl wr w.heap.size lv ((l.take i).map Nt.pl) ∧ Below w.heap.size w wr) (fun _ kv _ => n - (intOf kv).toNat)
  case atStart => exact ⟨0, none, 0, by omega, rfl, rfl, World.ownsRow_nil _ _ _ _, Below.refl _ _⟩
  case round =>
    obtain ⟨i, a, cc, hi2, rfl, rfl, hO, hB⟩ := hrel
    have HO := hide hO
    have HB := hide hB
    clear hO hB
    by_cases hlt : i < n
    · have hlt' : i < l.length := by rw [← unhide HN]; exact hlt
      obtain ⟨p, hp⟩ : ∃ p, l[i]? = some p := ⟨_, List.getElem?_eq_getElem hlt'⟩
      obtain ⟨g, o, rfl, hgl, hra⟩ := ((unhide HA).up (unhide HB)) i p hp
      have hto : (l.take (i + 1)).map Nt.pl = (l.take i).map Nt.pl ++ [p.pl] := by
        obtain ⟨h1, rfl⟩ := List.getElem?_eq_some_iff.1 hp
        rw [List.take_succ_eq_append_getElem h1, List.map_append]
        rfl
      have hlen : ((l.take i).map Nt.pl).length = i := by rw [List.length_map, List.length_take]; omega
      have HLE := hide hlen
      have HTO := hide hto
      obtain ⟨T1, hT1⟩ : ∃ T, T = (l.take (i + 1)).map Nt.pl := ⟨_, rfl⟩
      rw [← hT1] at HTO
      have HT1 := hide hT1
      generalize (l.take i).map Nt.pl = T0 at *
      obtain ⟨nm, nd, px, py, un⟩ := p
      have HRA := hide hra
      unfold Nt.cl at HRA
      dsimp only at HRA HTO
      have q1 : (i : Int) < n := by omega
      have hwr := (unhide HB).size
      clear hp hlt' hra hto hlen hT1
      have HO4 : Hid (∀ o1 o2, ((wr.alloc o1).alloc o2).ownsRow w.heap.size 23 2 (.slice a i cc) i (plC T0)) := fun o1 o2 => by
        have h1 := World.ownsRow.kept (show World.ownsRow _ _ _ _ _ _ _ from unhide HO) (grown_of ((Below.refl wr.heap.size wr).alloc (Nat.le_refl _) o1) none) (Classical.em _)
        have h2 := World.ownsRow.kept h1 (grown_of ((Below.refl (wr.alloc o1).heap.size (wr.alloc o1)).alloc (Nat.le_refl _) o2) none) (Classical.em _)
        rw [unhide HLE] at h2
        exact h2
      have HG2 := hide (fun z (hz : (Value.slice a i cc).ownBlock = some z) => pls_ge (unhide HO) hz)
      have hs1 : (wr.alloc (.cells #[.string (bs nm), .int .i64 nd, .int .i64 px, .int .i64 py, .int .i64 un] 25)).heap.size = wr.heap.size + 1 := by simp
      have hnw := news_lit (wr.alloc (.cells #[.string (bs nm), .int .i64 nd, .int .i64 px, .int .i64 py, .int .i64 un] 25)) [.int .i64 px, .int .i64 py] 23
      rw [hs1] at hnw
      have HNW := hide hnw
      clear hnw
      go_wp2_with (first | (refine wpList_load_mid rfl 25 (.tmp 10) rfl g (o + i * 5) rfl [.string (bs nm), .int .i64 nd, .int .i64 px, .int .i64 py, .int .i64 un] _ (unhide HRA) Try.underlying25 rfl (by kernel_rfl) ?_) | (refine wpList_append_lies _ rfl (.tmp 12) (.tmp 15) 68 rfl w.heap.size 23 i0 (.agg #[.int .i64 0, .int .i64 0]) 2 16 Try.undPl hi hz0 hz1 hz2 rfl (by decide) (.slice a i cc) i _ (by rfl) (unhide HO4 _ _) ⟨wr.heap.size + 1, 0, none⟩ 1 1 [.int .i64 px, .int .i64 py] (by rfl) (by rfl) (unhide HNW) (by intro u hu; simp at hu; rcases hu with rfl | rfl <;> rfl) (by decide) (by unfold maxLen; omega) (by omega) (by simp; omega) (wr.heap.size + 2) (by simp) ?_))
      intro g2 cap2 w4 hown hgrow hat hlt2
      have HF : Hid (OwnPl w4 w.heap.size (.slice (some ⟨g2, 0, none⟩) (i + 1) cap2) T1) := by
        show OwnPl _ _ _ _
        rw [unhide HTO]
        unfold OwnPl
        rw [plC_app, List.length_append, unhide HLE]
        exact hown
      have HB4 := hide ((((unhide HB).alloc hwr (.cells #[.string (bs nm), .int .i64 nd, .int .i64 px, .int .i64 py, .int .i64 un] 25)).alloc (by simp; omega) (.cells #[.int .i64 px, .int .i64 py] 23)).grown hgrow (by simp; omega) (fun z hz => unhide HG2 z hz))
      clear hown hgrow hat hlt2 HO4 HG2 HNW HRA
      go_wp2
      go_roundw
      case rel => exact ⟨i + 1, _, _, by omega, by go_num, rfl, by rw [← unhide HT1]; exact unhide HF, unhide HB4⟩
      case measure => simp [intOf]; omega
    · have hin : i = n := by omega
      have q1 : ¬ (i : Int) < n := by omega
      have HF : Hid (OwnPl wr w.heap.size (.slice a i cc) L) := by
        have h := unhide HO
        rw [show l.take i = l by rw [hin, unhide HN, List.take_length], ← unhide HL] at h
        exact h
      clear hin HO
      go_wp2
      go_ret
      exact ⟨_, rfl, unhide HF, unhide HB⟩
end Go.Proofs.Ytjdphcjapdklpaa
