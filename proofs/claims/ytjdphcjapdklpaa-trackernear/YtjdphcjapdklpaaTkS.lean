/- tracker: an announcement of whatever note. -/
import Derived.Test.YtjdphcjapdklpaaTkR
namespace Go.Proofs.Ytjdphcjapdklpaa
open Go.RowKit
set_option linter.unusedVariables false
attribute [local go_sem] Oper.semAt_some

theorem TbAt.more {w : World} {b mb : Nat} {f : Names} {N : Nat} {room : Int} (h : TbAt w b mb f N room) : TbAt w b mb f (N + 1) room := by
  obtain ⟨D, h1, h2, h3⟩ := h.map
  exact ⟨h.blk, ⟨D, h1, h2, by omega⟩, h.ok, h.kl, h.ne, h.rm⟩
theorem ann_tot (b mb : Nat) (f : Names) (N : Nat) (room now : Int) (x : Nt) (w : World) (hT : TbAt w b mb f N room) (hN : N ≤ 10000) (hx : x.nm.length ≤ maxLen) :
    Calls Try.prog 8 #[.pointer (some ⟨b, 0, none⟩), .agg x.cl.toArray, .int .i64 now] w fun e w' => ∃ c, e = .returned (.int .i64 c) ∧ (∃ f', TbAt w' b mb f' (N + 1) room) ∧ w.grownBy w' (some mb) := by
  by_cases hi : isT now = true
  · by_cases hm : mayN x now = true
    · obtain ⟨ss, hss, hl⟩ := tb_keys hT
      refine (ann_good b mb f N room now x ss w hT hN hx hi hm hss).mono ?_
      rintro e w' (⟨_, _, h3, h4⟩ | ⟨_, h3, h4, h5⟩)
      · exact ⟨6, h3, ⟨f, (hT.up h4).more⟩, grown_of h4 _⟩
      · exact ⟨0, h3, ⟨_, h4⟩, h5⟩
    · refine (ann_bad b mb f N room now x w hT hx (by rw [(by simpa using hm : mayN x now = false), Bool.and_false])).mono ?_
      rintro e w' ⟨h1, h2⟩
      exact ⟨1, h1, ⟨f, (hT.up h2).more⟩, grown_of h2 _⟩
  · refine (ann_bad b mb f N room now x w hT hx (by rw [(by simpa using hi : isT now = false), Bool.false_and])).mono ?_
    rintro e w' ⟨h1, h2⟩
    exact ⟨1, h1, ⟨f, (hT.up h2).more⟩, grown_of h2 _⟩
end Go.Proofs.Ytjdphcjapdklpaa
