/-
  CodecReads gives true by the contracts of package codec and its reference.
-/
import Derived.Test.YtdkfelobmdpkiaaDoorCdW
import Derived.Test.YtdkfelobmdpkiaaDoorCeB
namespace Go.Proofs.YtdkfelobmdpkiaaDoor
open Go.RowKit

set_option maxHeartbeats 8000000 in
set_option maxRecDepth 4000000 in
theorem reads_any (ao : Option Addr) (l : List UInt8) (cap : Nat) (at_ most : Int) (h0 : -9223372036854775808 ≤ at_) (h1 : at_ ≤ 9223372036854775807) (w : World) (h : IsB w ao l cap) (G : Good5 w) (HLV : Alive5) :
    Calls Tryd.prog 4 #[.slice ao l.length cap, .int .i64 at_, .int .i64 most] w (RwC w true) := by
  have HA := Lib.hid (HLV w G)
  have hlen := h.len.1
  by_cases hl : 2000 < l.length
  · clear h G
    go_enter Tryd.func4, Tryd.ntmps4
    go_wp2_with fail
    go_at_call 11; refine HA.out.mono ?_; rintro e9 w9 ⟨rfl, f9⟩
    go_wp2
    go_ret
    exact ⟨rfl, f9⟩
  have hl2 : l.length ≤ 2000 := by omega
  obtain ⟨u, n, c, hu⟩ : ∃ u n c, uintV l at_ = (u, n, c) := ⟨_, _, _, rfl⟩
  obtain ⟨u2, n2, c2, hi⟩ : ∃ u n c, intV l at_ = (u, n, c) := ⟨_, _, _, rfl⟩
  obtain ⟨S, n3, c3, hs⟩ : ∃ u n c, strV l at_ most = (u, n, c) := ⟨_, _, _, rfl⟩
  have H1 := Lib.hid (uint_is ao l cap at_ h0 h1 w h u n c hu)
  have H2 := Lib.hid (ruint_is ao l cap at_ h0 h1 w h (by omega) u n c hu)
  have H3 := Lib.hid (int_is ao l cap at_ h0 h1 w h u2 n2 c2 hi)
  have H4 := Lib.hid (rint_is ao l cap at_ h0 h1 w h (by omega) u2 n2 c2 hi)
  have H5 := Lib.hid (str_is ao l cap at_ most h0 h1 w h S n3 c3 hs)
  have H6 := Lib.hid (rstr_is ao l cap at_ most h0 h1 w h (by omega) S n3 c3 hs)
  have hS : ((yb S).toList == (yb S).toList) = true := beq_self_eq_true _
  clear hu hi hs h G h0 h1 hl HLV
  go_enter Tryd.func4, Tryd.ntmps4
  go_wp2_with fail
  go_at_call 20; refine H1.out.mono ?_; rintro e1 w1 ⟨rfl, rfl⟩
  clear H1
  go_wp2_with fail
  go_at_call 21; refine H2.out.mono ?_; rintro e1 w1 ⟨rfl, rfl⟩
  clear H2
  go_wp2_with fail
  go_at_call 22; refine H3.out.mono ?_; rintro e1 w1 ⟨rfl, rfl⟩
  clear H3
  go_wp2_with fail
  go_at_call 23; refine H4.out.mono ?_; rintro e1 w1 ⟨rfl, rfl⟩
  clear H4
  go_wp2_with fail
  go_at_call 24; refine H5.out.mono ?_; rintro e1 w1 ⟨rfl, rfl⟩
  clear H5
  go_wp2_with fail
  go_at_call 25; refine H6.out.mono ?_; rintro e1 w1 ⟨rfl, rfl⟩
  clear H6
  go_wp2_with fail
  go_at_call 11; refine HA.out.mono ?_; rintro e9 w9 ⟨rfl, f9⟩
  go_wp2
  go_ret
  exact ⟨rfl, f9⟩
end Go.Proofs.YtdkfelobmdpkiaaDoor
