/- The walk of the law that rows are what the document says. -/
import Derived.Test.YthgcedhplbhiiaaL5
import Derived.Test.YthgcedhplbhiiaaLA
import Derived.Test.YthgcedhplbhiiaaLB
import Derived.Test.YthgcedhplbhiiaaLC
import Derived.Deep.CutBlock
import Derived.Deep.Cut
namespace Go.Proofs.Ythgcedhplbhiiaa
open Go Go.RowKit

def Hd (w W : World) (b g bx gx K N : Nat) : Prop := ∃ L, Dh w W b g bx gx K N L L
set_option maxHeartbeats 64000000 in
set_option maxRecDepth 1000000 in
theorem does_short (n : Int) (A : Option Addr) (M c : Nat) (w : World) (h : ¬ 40 < M) (h' : ¬ 30 < n) (hin : InD w A M) :
    Calls Try.prog 3 #[.int .i64 n, .slice A M c] w fun e w' => e = .returned (.bool true) ∧ Below w.heap.size w w' := by
  have I := Lib.hid hin
  clear hin
  have hL : ¬ (40 : Int) < (M : Int) := by omega
  have hLd : decide ((40 : Int) < (M : Int)) = false := by simp; omega
  have hNd : decide (30 < n) = false := by simpa using h'
  have hN30 : cl n ≤ 30 := by unfold cl; split <;> (try split) <;> omega
  go_enter Try.func3, Try.ntmps3
  go_wp2_with fail
  refine (awake_any _).mono ?_
  rintro e w1 ⟨rfl, hb1⟩
  go_wp2_with fail
  refine (one_new (by omega) w w1 hb1).mono ?_
  rintro e w2 ⟨b, g, rfl, ho, hb2, k1, k2⟩
  go_wp2_with fail
  refine (rnew_any w2 (by omega)).mono ?_
  rintro e w3 ⟨bx, gx, rfl, hrf, hb3, k3, k4⟩
  have H0 := Lib.hid (show Hd w w3 b g bx gx w3.heap.size (cl n) from by
    have q1 := ho.ln.lt
    have q2 := hb3.size
    have q3 := ho.bel.size
    exact ⟨_, ho.ln.below hb3, hrf, ho.bel.trans (hb3.mono ho.bel.size), ⟨by omega, by omega, by omega, by omega⟩, ho.hg, by omega⟩)
  clear ho hrf hb1 hb2 hb3 k1 k2 k3 k4
  generalize w3.heap.size = K at H0
  generalize cl n = N at H0 hN30
  go_wp2_with fail
  go_loopw [35] (fun t wr => ∃ k : Nat, k ≤ M ∧ t = .int .i64 k ∧ Hd w wr b g bx gx K N) (fun t _ => M - (intOf t).toNat)
  case atStart => exact ⟨0, by omega, rfl, H0.out⟩
  case round =>
    obtain ⟨k, hk, rfl, L, hdh⟩ := hrel
    have H := Lib.hid hdh
    clear hdh H0
    by_cases hlt : k < M
    · obtain ⟨ad, kd, d1, d2, d3, rfl, ⟨c0, c1, c2, c3⟩⟩ := I.out.at H.out.bel hlt
      have HD0 := Lib.hid (H.out.du kd d1 d2 d3)
      obtain ⟨q, hq⟩ := at_ex N L d3
      have HQ := Lib.hid hq
      clear H hq
      go_upto_block 2 with fail
      clear c0 c1 c2 c3
      generalize wr.alloc (.cells #[.int .i64 kd, .int .i64 d1, .int .i64 d2, .int .i64 d3] 29) = W0 at HD0 ⊢
      generalize wr.heap.size = Bd at HD0 ⊢
      refine sw HD0.out ?_
      intro t41 t42 t43 t44 t45 t46 t47 t48 t49 t50 t51 t52 t53 t54 t55 t56 t57 t58 t59 t60 t61 t62 t63 t64 t65 t66 t67 t68 t69 t70 t71 t72 t73 t74 t75 t76 t77 t78 t79 t80 t81 t82 t83 w2 L9 hd9
      have HD := Lib.hid hd9
      clear hd9 HD0 HQ
      obtain ⟨q9, hq9⟩ := at_ex N L9 d3
      obtain ⟨ri, ka, kp, nxt, isb, nb, hsp⟩ := spots hq9
      have HSp := Lib.hid hsp
      have HRow := Lib.hid (HD.out.dh.ln.rowIs hq9)
      have HAt := Lib.hid (HD.out.dh.rf.at hq9)
      have HNxt := Lib.hid (HD.out.dh.ln.next hq9)
      rw [hsp.row] at HRow
      rw [hsp.at'] at HAt
      rw [hsp.next] at HNxt
      have HFst := Lib.hid (HD.out.dh.ln.first d1)
      have HLst := Lib.hid (HD.out.dh.rf.list d1)
      have HL21 := Lib.hid (HD.out.dh.ln.list d1)
      have hll := listOf_len HD.out.dh.rf.good d1
      have e1 := HD.out.c1
      have e3 := HD.out.c3
      obtain ⟨ws, hws⟩ : ∃ ws, listOf N L9 d1 = ws := ⟨_, rfl⟩
      have HWs := Lib.hid hws
      rw [hws] at HFst HLst hll HL21
      obtain ⟨fx, fb, hf1, hfb, hfn, hf0⟩ := firsts ws
      rw [hf1] at HFst
      have HFn := Lib.hid hfn
      have HF0 := Lib.hid hf0
      obtain ⟨m8, hm8⟩ : ∃ m8, ws.length = m8 := ⟨_, rfl⟩
      have HM8 := Lib.hid hm8
      rw [hm8] at hll hfb
      clear hq9 hsp hws hm8 hf1 hfn hf0
      go_wp2_with (first
        | (go_at_call 15; ((with_reducible refine HRow.out.mono ?_); rintro e w' ⟨rfl, rfl⟩))
        | (go_at_call 16; ((with_reducible refine HAt.out.mono ?_); rintro e w' ⟨rfl, rfl⟩))
        | (go_at_call 17; ((with_reducible refine HFst.out.mono ?_); rintro e w' ⟨rfl, rfl⟩)))
      refine HLst.out.mono ?_
      rintro e w' ⟨A8, c8, rfl, hrd8, rfl⟩
      rw [HM8.out]
      have HR8 := Lib.hid hrd8
      clear hrd8 HRow HAt HFst HLst
      go_upto_region 21 with (go_at_call 19; ((with_reducible refine HNxt.out.mono ?_); rintro e w' ⟨rfl, rfl⟩))
      clear HNxt e3
      refine reg21 HD.out HWs.out HM8.out HR8.out HSp.out.ge HSp.out.yes (fun e => (HSp.out.no e).1) hfb HFn.out HF0.out (by omega) ?_
      intro t116 t117 t118 t119 t120 t121 t122 t123 t124 t125 t126 t127 t128 t129 t130 t131 t132 t133 t134 t135 t136 t137 t138 t139 t140 t141 t142 t143 t144 t145 t146 t147 t148 t149 t150 t151 t152 t153 t154 t155 t156 t157 t158 t159 t160 t161 t162 t163 t164 t165 t166 t167 t168 t169 t170 t171 t172 t173 t174 t175 t176 t177 t178 t179 t180 t181 w5 hd10
      have HD9 := Lib.hid hd10
      clear hd10 HD HR8 HL21 HWs HFn HF0 HM8 hfb hll e1
      go_upto_region 23 with fail
      refine reg23 HD9.out HSp.out ?_
      intro t183 t184 t185 t186 t187 t188 t189 t190 t191 t192 t193 t194 t195 t196 t197
      go_upto_region 24 with fail
      refine reg24 HD9.out HSp.out ?_
      intro t198 t199 t200 t201 t202 t203 t204 t205 t206 t207 t208 t209 t210 t211 t212 t213 t214 t215 t216 t217 t218 t219 t220 t221 t222 t223 t224 t225
      clear HSp
      go_wp2_with fail
      go_roundw
      case rel => exact ⟨k + 1, by omega, by go_num, L9, HD9.out.dh⟩
      case measure => simp [intOf]; omega
    · obtain rfl : k = M := by omega
      go_wp2_with fail
      go_ret
      exact ⟨rfl, H.out.bel⟩
theorem does_walk (n : Int) (A : Option Addr) (M c : Nat) (w : World) (hm : M ≤ maxLen) (hin : InD w A M) :
    Calls Try.prog 3 #[.int .i64 n, .slice A M c] w fun e w' => e = .returned (.bool true) ∧ Below w.heap.size w w' := by
  by_cases h : 40 < M ∨ 30 < n
  · exact does_long n A M c w h hm
  · exact does_short n A M c w (by omega) (by omega) hin
end Go.Proofs.Ythgcedhplbhiiaa
