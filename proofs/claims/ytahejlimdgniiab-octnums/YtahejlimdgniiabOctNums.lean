/- What the law OctNums does, whatever the world: it answers true and changes nothing that was there. -/
import Derived.Test.YtahejlimdgniiabOctAwake
import Derived.Test.YtahejlimdgniiabRefO
namespace Go.Proofs.Ytahejlimdgniiab
open Go.RowKit
set_option linter.unusedVariables false

theorem putS_back (n size : Int) (h : (putS n size).2 = 0) : getV (putS n size).1 = n ∧ ((putS n size).1.length : Int) = size := by
  unfold putS at *
  by_cases hs : size < 1 ∨ 7 < size
  · rw [if_pos hs] at h; simp at h
  · rw [if_neg hs] at *
    by_cases ca : n < 0 ∨ n / 2 ^ (8 * size.toNat) ≠ 0
    · rw [if_pos ca] at h; simp at h
    · rw [if_neg ca]
      exact ⟨getV_putB n _ (by omega) (by omega), by simp only [putB_length]; omega⟩

/-- what Get answers -/
def getA (l : List UInt8) : Int := if l.length ≤ 7 then getV l else 0
theorem get_all (s : ByteArray) (w : World) (hm : s.size ≤ maxLen) :
    Calls Try.prog 18 #[.string s] w fun x w' => x = .returned (.int .i64 (getA s.data.toList)) ∧ w = w' := by
  unfold getA
  rw [blen]
  by_cases h : s.size ≤ 7
  · rw [if_pos h]; exact get_any s w h
  · rw [if_neg h]; exact get_long s w hm (by omega)
theorem rget_all (s : ByteArray) (w : World) (hm : s.size ≤ maxLen) :
    Calls Try.prog 19 #[.string s] w fun x w' => x = .returned (.int .i64 (getA s.data.toList)) ∧ w = w' := by
  unfold getA
  rw [blen]
  by_cases h : s.size ≤ 7
  · rw [if_pos h]; exact rget_any s w h
  · rw [if_neg h]; exact rget_long s w hm (by omega)

theorem octNums_any (n size : Int) (s : ByteArray) (w : World) (_h0 : (Lit.int .i64 n).wf = true) (_h1 : (Lit.int .i64 size).wf = true) (hs : s.size ≤ maxLen) :
    Calls Try.prog 5 #[.int .i64 n, .int .i64 size, .string s] w fun e w' => e = .returned (.bool true) ∧ Below w.heap.size w w' := by
  have HS := hide hs
  unfold maxLen at hs
  clear _h0 _h1
  by_cases hl : (5000 : Int) < s.size
  · go_enter Try.func5, Try.ntmps5
    go_wp2_with fail
    refine (awake_any w).mono ?_
    rintro e w3 ⟨rfl, b3⟩
    go_wp2
    go_ret
    exact ⟨rfl, b3⟩
  · have hb := hide (putS_back n size)
    have hlen := hide (putS_length n size)
    have hp1 := hide (put_any n size)
    have hp2 := hide (rput_any n size)
    generalize (putS n size).1 = t at *
    generalize (putS n size).2 = er at *
    generalize hg : getA s.data.toList = g
    have hg1 := hide (get_all s)
    have hg2 := hide (rget_all s)
    rw [hg] at hg1 hg2
    clear hg
    by_cases c1 : er = 0
    · subst c1
      obtain ⟨o1, o2⟩ := unhide hb rfl
      have hga : Hid (getA t = n) := by show _ = _; unfold getA; rw [if_pos (unhide hlen), o1]
      have o3 : ((⟨t.toArray⟩ : ByteArray).size : Int) = size := by simp [ByteArray.size, o2]
      clear o1 hb
      go_enter Try.func5, Try.ntmps5
      go_wp2_with fail
      refine (unhide hp1 w).mono ?_
      rintro e w1 ⟨rfl, b1⟩
      go_wp2_with fail
      refine (unhide hp2 w1).mono ?_
      rintro e w2 ⟨rfl, b2⟩
      go_wp2_with fail
      refine (awake_any w2).mono ?_
      rintro e w3 ⟨rfl, b3⟩
      have hbb := hide ((b1.trans (b2.mono b1.size)).trans (b3.mono (Nat.le_trans b1.size b2.size)))
      clear b1 b2 b3
      go_wp2_with fail
      refine (unhide hg1 w3 (unhide HS)).mono ?_
      rintro e w4 ⟨rfl, rfl⟩
      go_wp2_with fail
      refine (unhide hg2 w3 (unhide HS)).mono ?_
      rintro e w4 ⟨rfl, rfl⟩
      go_wp2_with fail
      have h5 := get_all ⟨t.toArray⟩ w3 (by have := unhide hlen; unfold maxLen; simp [ByteArray.size]; omega)
      rw [show (⟨t.toArray⟩ : ByteArray).data.toList = t from rfl, unhide hga] at h5
      refine h5.mono ?_
      clear h5
      rintro e w4 ⟨rfl, rfl⟩
      go_wp2
      go_ret
      exact ⟨rfl, unhide hbb⟩
    · have hne : (er != 0) = true := by simpa using c1
      go_enter Try.func5, Try.ntmps5
      go_wp2_with fail
      refine (unhide hp1 w).mono ?_
      rintro e w1 ⟨rfl, b1⟩
      go_wp2_with fail
      refine (unhide hp2 w1).mono ?_
      rintro e w2 ⟨rfl, b2⟩
      go_wp2_with fail
      refine (awake_any w2).mono ?_
      rintro e w3 ⟨rfl, b3⟩
      have hbb := hide ((b1.trans (b2.mono b1.size)).trans (b3.mono (Nat.le_trans b1.size b2.size)))
      clear b1 b2 b3
      go_wp2_with fail
      refine (unhide hg1 w3 (unhide HS)).mono ?_
      rintro e w4 ⟨rfl, rfl⟩
      go_wp2_with fail
      refine (unhide hg2 w3 (unhide HS)).mono ?_
      rintro e w4 ⟨rfl, rfl⟩
      go_wp2
      go_ret
      exact ⟨rfl, unhide hbb⟩

end Go.Proofs.Ytahejlimdgniiab
