/-
  BucketExact: its switch, the case wait.
  Conditions: as the theorem states them: the argument and the bucket lie in memory.
-/
import Derived.Test.YtcnkejndblcbhaaKX
import Derived.Deep.CutRange
import Derived.Deep.DeepCutAuto
import Derived.WalkSmall
import Derived.BigRegion
import Derived.Deep.RegionHeld3
namespace Go.Proofs.Ytcnkejndblcbhaa
open Go.RowKit

set_option maxHeartbeats 8000000 in
set_option maxRecDepth 100000 in
theorem wait_case (b a : BI) (x : F4) (l : List F4) (cp kb o i B : Nat) (q s : Bool) (w w3 : World) (t0 t2 t6 t10 t11 t12 t13 t14 t15 t16 t17 t18 t19 t20 t21 t22 t23 t24 t25 t26 t27 t28 t29 t30 t31 t32 t33 t34 t35 t36 t37 t38 t39 t40 t41 t42 t43 t44 t45 t46 t47 t48 t49 t50 t51 t52 t53 t54 t55 t56 t57 t58 t59 t60 t61 t62 t63 t64 t65 t66 t67 t68 t69 t70 t71 t72 t73 t74 t75 t76 t77 t78 t79 t80 t81 t82 t83 t84 t85 t86 t87 t88 t89 t90 t91 t92 t93 t94 t95 t96 t97 t98 t99 t100 t101 t102 t103 t104 t105 t106 t107 t108 t109 t110 t111 t112 t113 t114 t115 t116 t117 t118 t119 t120 t121 t122 t123 t124 t125 t126 t127 t128 t129 t130 t131 t132 t133 t134 t135 t136 t137 t138 t139 t140 t141 t142 t143 t144 t145 t146 t147 t148 t149 t150 t151 t152 t153 t154 t155 t156 t157 t158 t159 t160 t161 t162 t163 t164 t165 t166 t167 t168 t169 t170 t171 t172 t173 t174 t175 t176 t177 t178 t179 t180 t181 t182 t183 t184 t185 t186 t187 t188 t189 t190 t191 t192 t193 t194 t195 t196 t197 t198 t199 t200 t201 t202 t203 t204 t205 t206 t207 t208 t209 t210 t211 t212 t213 t214 t215 t216 t217 t218 t219 t220 t221 t222 t223 t224 t225 t226 t227 t228 t229 : Value) (Q : Exit → Act → World → Prop) (C : Code) (hC : exactAt [1, 1, 1, 0, 1, 0, 0, 1, 0, 0, 1, 1, 1, 1, 1, 1, 1, 0, 1, 1, 1, 1, 1, 0] = C)
    (HC3 : Hid (BAt w3 B a)) (HS3 : Hid (SAt w3 w.heap.size b (.slice (some ⟨kb, o, none⟩) l.length cp))) (HB3 : Hid (Below w.heap.size w w3)) (_plt : w.heap.size < B)
    (_HOK : Hid (okB a = q)) (HSQ : Hid ((okB a && inB x.b 0 1048576) = s)) (_hll : l.length < 9223372036854775808) (_hlti : (i : Int) < (l.length : Int)) (_hkb : kb < w3.heap.size)
    (_hc2 : w3.cell? ⟨kb, o + i * 4 + 2, none⟩ = some (.int .i64 x.c)) (_hc3 : w3.cell? ⟨kb, o + i * 4 + 3, none⟩ = some (.int .i64 x.d))
    (hQ : ∀ (r9 r10 r11 r12 r13 r14 r15 r16 r17 r18 r19 r20 r21 r22 r23 r24 r31 r32 r33 r34 r35 r36 r37 r38 r39 r40 r41 r42 r43 r44 r45 r46 r47 r48 r49 r50 r51 r52 r53 r54 r55 r56 r57 r58 r59 r60 r61 r62 r63 r64 r65 r66 r67 r68 r69 r70 r71 r72 r73 r74 r75 r76 r77 r78 r79 r80 r81 r82 r83 r84 r85 r86 r87 r88 r89 r90 r91 r92 r93 r94 r95 r96 r97 r98 r99 r100 r101 r102 r103 r104 r105 r106 r107 r108 r109 r110 r111 r112 r113 r114 r115 r116 r117 r118 r119 r120 r121 r122 r123 r124 r125 r126 r127 r128 r129 r130 r131 r132 r133 r134 r135 r136 r137 r138 r139 r140 r141 r142 r143 r144 r145 r146 r147 r148 r149 r150 r151 r152 r153 r154 r155 r156 r157 r158 r159 r160 r161 r162 r163 r164 r165 r166 r167 r168 r169 r170 r171 r172 r173 r174 r175 r176 r177 r178 r179 r180 r181 r182 r183 r184 r185 r186 r187 r188 r189 r190 r191 r192 r193 r194 r195 r196 r197 r198 r199 r200 r201 r202 r203 r204 r205 r206 r207 r208 r209 r210 r211 r212 r213 r214 r215 r216 r217 r218 r219 r220 r221 r222 r223 r224 r225 r226 r227 r228 : Value) (a' : BI) (w' : World), BAt w' B a' → SAt w' w.heap.size b (.slice (some ⟨kb, o, none⟩) l.length cp) → Below w.heap.size w w' → Q .normal { tmps := #[t0, .pointer (some ⟨w.heap.size, 0, none⟩), t2, .pointer (some ⟨B, 0, none⟩), .int .i64 (i : Int), .bool q, t6, .int .i64 x.b, .bool s, r9, r10, r11, r12, r13, r14, r15, r16, r17, r18, r19, r20, r21, r22, r23, r24, t25, t26, t27, t28, t29, t30, r31, r32, r33, r34, r35, r36, r37, r38, r39, r40, r41, r42, r43, r44, r45, r46, r47, r48, r49, r50, r51, r52, r53, r54, r55, r56, r57, r58, r59, r60, r61, r62, r63, r64, r65, r66, r67, r68, r69, r70, r71, r72, r73, r74, r75, r76, r77, r78, r79, r80, r81, r82, r83, r84, r85, r86, r87, r88, r89, r90, r91, r92, r93, r94, r95, r96, r97, r98, r99, r100, r101, r102, r103, r104, r105, r106, r107, r108, r109, r110, r111, r112, r113, r114, r115, r116, r117, r118, r119, r120, r121, r122, r123, r124, r125, r126, r127, r128, r129, r130, r131, r132, r133, r134, r135, r136, r137, r138, r139, r140, r141, r142, r143, r144, r145, r146, r147, r148, r149, r150, r151, r152, r153, r154, r155, r156, r157, r158, r159, r160, r161, r162, r163, r164, r165, r166, r167, r168, r169, r170, r171, r172, r173, r174, r175, r176, r177, r178, r179, r180, r181, r182, r183, r184, r185, r186, r187, r188, r189, r190, r191, r192, r193, r194, r195, r196, r197, r198, r199, r200, r201, r202, r203, r204, r205, r206, r207, r208, r209, r210, r211, r212, r213, r214, r215, r216, r217, r218, r219, r220, r221, r222, r223, r224, r225, r226, r227, r228, t229], defers := [] } w') :
    C.wp Try.prog Q { tmps := #[t0, .pointer (some ⟨w.heap.size, 0, none⟩), t2, .pointer (some ⟨B, 0, none⟩), .int .i64 (i : Int), .bool q, t6, .int .i64 x.b, .bool s, .int .i64 1, t10, t11, t12, t13, t14, t15, t16, t17, t18, t19, t20, t21, t22, t23, t24, t25, t26, t27, t28, t29, t30, t31, t32, t33, t34, t35, t36, t37, t38, t39, t40, t41, t42, t43, t44, t45, t46, t47, t48, t49, t50, t51, t52, t53, t54, t55, t56, t57, t58, t59, t60, t61, t62, t63, t64, t65, t66, t67, t68, t69, t70, t71, t72, t73, t74, t75, t76, t77, t78, t79, t80, t81, t82, t83, t84, t85, t86, t87, t88, t89, t90, t91, t92, t93, t94, t95, t96, t97, t98, t99, t100, t101, t102, t103, t104, t105, t106, t107, t108, t109, t110, t111, t112, t113, t114, t115, t116, t117, t118, t119, t120, t121, t122, t123, t124, t125, t126, t127, t128, t129, t130, t131, t132, t133, t134, t135, t136, t137, t138, t139, t140, t141, t142, t143, t144, t145, t146, t147, t148, t149, t150, t151, t152, t153, t154, t155, t156, t157, t158, t159, t160, t161, t162, t163, t164, t165, t166, t167, t168, t169, t170, t171, t172, t173, t174, t175, t176, t177, t178, t179, t180, t181, t182, t183, t184, t185, t186, t187, t188, t189, t190, t191, t192, t193, t194, t195, t196, t197, t198, t199, t200, t201, t202, t203, t204, t205, t206, t207, t208, t209, t210, t211, t212, t213, t214, t215, t216, t217, t218, t219, t220, t221, t222, t223, t224, t225, t226, t227, t228, t229], defers := [] } w3 := by
  have H0 := Lib.hid (fun X => num_any 0 X)
  have H1 := Lib.hid (fun X => num_any 1 X)
  have H9 := Lib.hid (fun X => num_any 9 X)
  have HQ := Lib.hid hQ
  have plt3 := HS3.out.lt
  have p5 := HS3.out.c5
  have hi0 : (0 : Int) ≤ (i : Int) := by omega
  clear hQ
  subst hC
  unfold exactAt Try.f3
  simp only [codeAt, Option.getD_some]
  have c0 := HC3.out.c0
  have c1 := HC3.out.c1
  have c2 := HC3.out.c2
  have c3 := HC3.out.c3
  have c4 := HC3.out.c4
  have HT := Lib.hid (fun X => wait_any a x.b X)
  cases s with
  | false =>
    rw [show waitR a x.b = .error 1 by unfold waitR; rw [HSQ.out]; rfl] at HT
    simp only [outI] at HT
    unfold bV at HT
    go_wp2_with fail
    refine Calls.mono (HT.out _) ?_
    rintro e w4 ⟨rfl, hb4⟩
    dsimp only
    have HC4 := Lib.hid (HC3.out.later hb4)
    have HS4 := Lib.hid (HS3.out.later hb4)
    have HB4 := Lib.hid (HB3.out.trans (hb4.mono HB3.out.size))
    clear hb4 HT HC3 HS3 HB3
    clear c0 c1 c2 c3 c4
    go_wp2_with fail
    refine Calls.mono (H1.out _) ?_
    rintro e w' ⟨rfl, he⟩
    have he := he.symm
    subst he
    dsimp only
    go_wp2_with fail
    refine HQ.out _ _ _ _ _ _ _ _ _ _ _ _ _ _ _ _ _ _ _ _ _ _ _ _ _ _ _ _ _ _ _ _ _ _ _ _ _ _ _ _ _ _ _ _ _ _ _ _ _ _ _ _ _ _ _ _ _ _ _ _ _ _ _ _ _ _ _ _ _ _ _ _ _ _ _ _ _ _ _ _ _ _ _ _ _ _ _ _ _ _ _ _ _ _ _ _ _ _ _ _ _ _ _ _ _ _ _ _ _ _ _ _ _ _ _ _ _ _ _ _ _ _ _ _ _ _ _ _ _ _ _ _ _ _ _ _ _ _ _ _ _ _ _ _ _ _ _ _ _ _ _ _ _ _ _ _ _ _ _ _ _ _ _ _ _ _ _ _ _ _ _ _ _ _ _ _ _ _ _ _ _ _ _ _ _ _ _ _ _ _ _ _ _ _ _ _ _ _ _ _ _ _ _ _ _ _ _ _ _ _ _ _ _ _ (a) _ ?_ ?_ ?_
    · exact HC4.out
    · exact HS4.out
    · exact HB4.out
  | true =>
    have HR := Lib.hid (fun X => rWait_any a x.b X HSQ.out)
    rw [show waitR a x.b = .ok (waitI a x.b) by unfold waitR; rw [HSQ.out]; rfl] at HT
    simp only [outI] at HT
    unfold bV at HT HR
    generalize waitI a x.b = z at *
    go_wp2_with fail
    refine Calls.mono (HR.out _) ?_
    rintro e w4 ⟨rfl, hb4⟩
    dsimp only
    have HC4 := Lib.hid (HC3.out.later hb4)
    have HS4 := Lib.hid (HS3.out.later hb4)
    have HB4 := Lib.hid (HB3.out.trans (hb4.mono HB3.out.size))
    clear hb4 HR HC3 HS3 HB3
    clear c0 c1 c2 c3 c4
    have c0 := HC4.out.c0
    have c1 := HC4.out.c1
    have c2 := HC4.out.c2
    have c3 := HC4.out.c3
    have c4 := HC4.out.c4
    go_wp2_with fail
    refine Calls.mono (HT.out _) ?_
    rintro e w5 ⟨rfl, hb5⟩
    dsimp only
    have HC5 := Lib.hid (HC4.out.later hb5)
    have HS5 := Lib.hid (HS4.out.later hb5)
    have HB5 := Lib.hid (HB4.out.trans (hb5.mono HB4.out.size))
    clear hb5 HT HC4 HS4 HB4
    clear c0 c1 c2 c3 c4
    go_wp2_with fail
    refine Calls.mono (H0.out _) ?_
    rintro e w' ⟨rfl, he⟩
    have he := he.symm
    subst he
    dsimp only
    go_wp2_with fail
    refine HQ.out _ _ _ _ _ _ _ _ _ _ _ _ _ _ _ _ _ _ _ _ _ _ _ _ _ _ _ _ _ _ _ _ _ _ _ _ _ _ _ _ _ _ _ _ _ _ _ _ _ _ _ _ _ _ _ _ _ _ _ _ _ _ _ _ _ _ _ _ _ _ _ _ _ _ _ _ _ _ _ _ _ _ _ _ _ _ _ _ _ _ _ _ _ _ _ _ _ _ _ _ _ _ _ _ _ _ _ _ _ _ _ _ _ _ _ _ _ _ _ _ _ _ _ _ _ _ _ _ _ _ _ _ _ _ _ _ _ _ _ _ _ _ _ _ _ _ _ _ _ _ _ _ _ _ _ _ _ _ _ _ _ _ _ _ _ _ _ _ _ _ _ _ _ _ _ _ _ _ _ _ _ _ _ _ _ _ _ _ _ _ _ _ _ _ _ _ _ _ _ _ _ _ _ _ _ _ _ _ _ _ _ _ _ _ (a) _ ?_ ?_ ?_
    · exact HC5.out
    · exact HS5.out
    · exact HB5.out
end Go.Proofs.Ytcnkejndblcbhaa
