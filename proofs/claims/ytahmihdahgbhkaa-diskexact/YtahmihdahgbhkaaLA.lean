/-
  DiskExact: its switch, the case size.
  Conditions: as the theorem states them: the act and the two disks lie in memory.
-/
import Derived.Test.YtahmihdahgbhkaaLX
import Derived.Deep.CutRange
import Derived.Deep.DeepCutAuto
import Derived.Deep.RegionHeld3
namespace Go.Proofs.Ytahmihdahgbhkaa
open Go.RowKit

set_option maxHeartbeats 4000000 in
set_option maxRecDepth 100000 in
theorem size_case (B p q g k : Nat) (D : Dk) (A : Ac) (bv pv : Value) (w3 : World) (t0 t1 t2 t4 t6 t10 t11 t12 t13 t14 t15 t16 t17 t18 t19 t20 t21 t22 t23 t24 t25 t26 t27 t28 t29 t30 t31 t32 t33 t34 t35 t36 t37 t38 t39 t40 t41 t42 t43 t44 t45 t46 t47 t48 t49 t50 t51 t52 t53 t54 t55 t56 t57 t58 t59 t60 t61 t62 t63 t64 t65 t66 t67 t68 t69 t70 t71 t72 t73 t74 t75 t76 t77 t78 t79 t80 t81 t82 t83 t84 t85 t86 t87 t88 t89 t90 t91 t92 t93 t94 t95 t96 t97 t98 t99 t100 t101 t102 t103 t104 t105 t106 t107 t108 t109 t110 t111 t112 t113 t114 t115 t116 t117 t118 t119 t120 t121 t122 t123 t124 t125 t126 t127 t128 t129 t130 t131 t132 t133 t134 t135 t136 t137 t138 t139 t140 t141 t142 t143 t144 t145 t146 t147 t148 t149 t150 t151 t152 t153 t154 t155 t156 t157 t158 t159 t160 t161 t162 t163 t164 t165 t166 t167 t168 t169 t170 t171 t172 t173 t174 t175 t176 t177 t178 t179 t180 t181 t182 t183 t184 t185 t186 t187 t188 t189 t190 t191 t192 t193 t194 t195 t196 t197 t198 t199 t200 t201 t202 t203 t204 t205 t206 t207 t208 t209 t210 t211 t212 t213 t214 t215 t216 t217 t218 t219 t220 t221 t222 t223 t224 t225 t226 t227 t228 t229 t230 t231 t232 t233 t234 t235 t236 t237 t238 : Value) (Q : Exit → Act → World → Prop) (C : Code) (hC : exactAt [1, 1, 1, 1, 1, 1, 0, 1, 0, 0, 1, 0, 0, 1, 1, 0, 1, 0, 1, 0] = C)
    (H2 : Hid (Two B p q D D g #[.int .i64 A.d, .int .i64 A.n, .int .i64 A.a, .int .i64 A.k, bv, pv] 40 w3)) (HMX : Hid (MxD D k)) (hk : k < 1000) (_hn : A.n < 9223372036854775808) (_hbl : A.b.length ≤ 8000) (_hpl : A.p.length ≤ 8000)
    (_HBV : Hid (∀ W, Below B w3 W → RB W bv A.b)) (_HPV : Hid (∀ W, Below B w3 W → IA W pv A.p)) (_HBB : Hid (A.b ≠ [] → ∀ j, bv.ownBlock = some j → j < B)) (_HPB : Hid (A.p ≠ [] → ∀ j, pv.ownBlock = some j → j < B))
    (hQ : ∀ (r10 r11 r12 r13 r103 r104 r105 r106 r107 r108 r109 r110 r111 r112 r113 r114 r115 r116 r117 r118 r119 r120 r121 : Value) (D' : Dk) (p' q' : Nat) (n : Int) (w' : World), Two B p' q' D' D' g #[.int .i64 A.d, .int .i64 A.n, .int .i64 A.a, .int .i64 A.k, bv, pv] 40 w' → MxD D' (k + 1) → Below B w3 w' → Q .normal { tmps := #[t0, t1, t2, .pointer (some ⟨p', 0, none⟩), t4, .pointer (some ⟨q', 0, none⟩), t6, .pointer (some ⟨g, 0, none⟩), .int .i64 n, .int .i64 n, r10, r11, r12, r13, t14, t15, t16, t17, t18, t19, t20, t21, t22, t23, t24, t25, t26, t27, t28, t29, t30, t31, t32, t33, t34, t35, t36, t37, t38, t39, t40, t41, t42, t43, t44, t45, t46, t47, t48, t49, t50, t51, t52, t53, t54, t55, t56, t57, t58, t59, t60, t61, t62, t63, t64, t65, t66, t67, t68, t69, t70, t71, t72, t73, t74, t75, t76, t77, t78, t79, t80, t81, t82, t83, t84, t85, t86, t87, t88, t89, t90, t91, t92, t93, t94, t95, t96, t97, t98, t99, t100, t101, t102, r103, r104, r105, r106, r107, r108, r109, r110, r111, r112, r113, r114, r115, r116, r117, r118, r119, r120, r121, t122, t123, t124, t125, t126, t127, t128, t129, t130, t131, t132, t133, t134, t135, t136, t137, t138, t139, t140, t141, t142, t143, t144, t145, t146, t147, t148, t149, t150, t151, t152, t153, t154, t155, t156, t157, t158, t159, t160, t161, t162, t163, t164, t165, t166, t167, t168, t169, t170, t171, t172, t173, t174, t175, t176, t177, t178, t179, t180, t181, t182, t183, t184, t185, t186, t187, t188, t189, t190, t191, t192, t193, t194, t195, t196, t197, t198, t199, t200, t201, t202, t203, t204, t205, t206, t207, t208, t209, t210, t211, t212, t213, t214, t215, t216, t217, t218, t219, t220, t221, t222, t223, t224, t225, t226, t227, t228, t229, t230, t231, t232, t233, t234, t235, t236, t237, t238], defers := [] } w') :
    C.wp Try.prog Q { tmps := #[t0, t1, t2, .pointer (some ⟨p, 0, none⟩), t4, .pointer (some ⟨q, 0, none⟩), t6, .pointer (some ⟨g, 0, none⟩), .int .i64 0, .int .i64 0, t10, t11, t12, t13, t14, t15, t16, t17, t18, t19, t20, t21, t22, t23, t24, t25, t26, t27, t28, t29, t30, t31, t32, t33, t34, t35, t36, t37, t38, t39, t40, t41, t42, t43, t44, t45, t46, t47, t48, t49, t50, t51, t52, t53, t54, t55, t56, t57, t58, t59, t60, t61, t62, t63, t64, t65, t66, t67, t68, t69, t70, t71, t72, t73, t74, t75, t76, t77, t78, t79, t80, t81, t82, t83, t84, t85, t86, t87, t88, t89, t90, t91, t92, t93, t94, t95, t96, t97, t98, t99, t100, t101, t102, t103, t104, t105, t106, t107, t108, t109, t110, t111, t112, t113, t114, t115, t116, t117, t118, t119, t120, t121, t122, t123, t124, t125, t126, t127, t128, t129, t130, t131, t132, t133, t134, t135, t136, t137, t138, t139, t140, t141, t142, t143, t144, t145, t146, t147, t148, t149, t150, t151, t152, t153, t154, t155, t156, t157, t158, t159, t160, t161, t162, t163, t164, t165, t166, t167, t168, t169, t170, t171, t172, t173, t174, t175, t176, t177, t178, t179, t180, t181, t182, t183, t184, t185, t186, t187, t188, t189, t190, t191, t192, t193, t194, t195, t196, t197, t198, t199, t200, t201, t202, t203, t204, t205, t206, t207, t208, t209, t210, t211, t212, t213, t214, t215, t216, t217, t218, t219, t220, t221, t222, t223, t224, t225, t226, t227, t228, t229, t230, t231, t232, t233, t234, t235, t236, t237, t238], defers := [] } w3 := by
  have HQ := Lib.hid hQ
  have HM := Lib.hid (HMX.out.lt (show k < 1000000 by omega))
  have c1 := H2.out.blk.c 1 (u := .int .i64 A.n) rfl
  have c2 := H2.out.blk.c 2 (u := .int .i64 A.a) rfl
  have c3 := H2.out.blk.c 3 (u := .int .i64 A.k) rfl
  have c4 := H2.out.blk.c 4 (u := bv) rfl
  have c5 := H2.out.blk.c 5 (u := pv) rfl
  have hB := H2.out.base
  have hg := H2.out.blk.lt
  have hpl3 := H2.out.ltK
  have hql3 := H2.out.ltR
  clear hQ
  subst hC
  unfold exactAt Try.f3
  simp only [codeAt, Option.getD_some]
  have HK := Lib.hid (H2.out.sizeK A.n)
  go_wp2_with fail
  refine Calls.mono HK.out ?_
  rintro e w4 ⟨rfl, hb4⟩
  dsimp only
  have H4 := Lib.hid (H2.out.later hb4)
  have HR := Lib.hid (H4.out.sizeR A.n)
  have d1 := H4.out.blk.c 1 (u := .int .i64 A.n) rfl
  have HB4 := Lib.hid (hb4.mono hB)
  have hq4 := H4.out.ltR
  clear hb4 HK c1 c2 c3 c4 c5
  generalize (sizeD D A.n).1 = s1 at *
  generalize (sizeD D A.n).2 = s2 at *
  go_wp2_with fail
  refine Calls.mono HR.out ?_
  rintro e w' ⟨rfl, he⟩
  have he := he.symm
  subst he
  dsimp only
  go_wp2_with fail
  refine HQ.out _ _ _ _ _ _ _ _ _ _ _ _ _ _ _ _ _ _ _ _ _ _ _ D p q s2 _ H4.out (HMX.out.mono (Nat.le_succ k)) HB4.out
end Go.Proofs.Ytahmihdahgbhkaa
