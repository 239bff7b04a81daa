/-
  DiskExact: its switch, the case crash.
  Conditions: as the theorem states them: the act and the two disks lie in memory.
-/
import Derived.Test.YtahmihdahgbhkaaLX
import Derived.Deep.CutRange
import Derived.Deep.DeepCutAuto
import Derived.Deep.RegionHeld3
namespace Go.Proofs.Ytahmihdahgbhkaa
open Go.RowKit

set_option maxHeartbeats 4000000 in
set_option maxRecDepth 100000 in
theorem crash_case (B p q g k : Nat) (D : Dk) (A : Ac) (bv pv : Value) (w3 : World) (t0 t1 t2 t4 t6 t10 t11 t12 t13 t14 t15 t16 t17 t18 t19 t20 t21 t22 t23 t24 t25 t26 t27 t28 t29 t30 t31 t32 t33 t34 t35 t36 t37 t38 t39 t40 t41 t42 t43 t44 t45 t46 t47 t48 t49 t50 t51 t52 t53 t54 t55 t56 t57 t58 t59 t60 t61 t62 t63 t64 t65 t66 t67 t68 t69 t70 t71 t72 t73 t74 t75 t76 t77 t78 t79 t80 t81 t82 t83 t84 t85 t86 t87 t88 t89 t90 t91 t92 t93 t94 t95 t96 t97 t98 t99 t100 t101 t102 t103 t104 t105 t106 t107 t108 t109 t110 t111 t112 t113 t114 t115 t116 t117 t118 t119 t120 t121 t122 t123 t124 t125 t126 t127 t128 t129 t130 t131 t132 t133 t134 t135 t136 t137 t138 t139 t140 t141 t142 t143 t144 t145 t146 t147 t148 t149 t150 t151 t152 t153 t154 t155 t156 t157 t158 t159 t160 t161 t162 t163 t164 t165 t166 t167 t168 t169 t170 t171 t172 t173 t174 t175 t176 t177 t178 t179 t180 t181 t182 t183 t184 t185 t186 t187 t188 t189 t190 t191 t192 t193 t194 t195 t196 t197 t198 t199 t200 t201 t202 t203 t204 t205 t206 t207 t208 t209 t210 t211 t212 t213 t214 t215 t216 t217 t218 t219 t220 t221 t222 t223 t224 t225 t226 t227 t228 t229 t230 t231 t232 t233 t234 t235 t236 t237 t238 : Value) (Q : Exit → Act → World → Prop) (C : Code) (hC : exactAt [1, 1, 1, 1, 1, 1, 0, 1, 0, 0, 1, 0, 0, 1, 1, 0, 1, 0, 1, 1, 1, 1, 1, 1, 1, 1, 1, 1, 1, 0] = C)
    (H2 : Hid (Two B p q D D g #[.int .i64 A.d, .int .i64 A.n, .int .i64 A.a, .int .i64 A.k, bv, pv] 40 w3)) (HMX : Hid (MxD D k)) (hk : k < 1000) (_hn : A.n < 9223372036854775808) (_hbl : A.b.length ≤ 8000) (hpl : A.p.length ≤ 8000)
    (_HBV : Hid (∀ W, Below B w3 W → RB W bv A.b)) (HPV : Hid (∀ W, Below B w3 W → IA W pv A.p)) (_HBB : Hid (A.b ≠ [] → ∀ j, bv.ownBlock = some j → j < B)) (HPB : Hid (A.p ≠ [] → ∀ j, pv.ownBlock = some j → j < B))
    (hQ : ∀ (r18 r19 r192 r193 r194 r195 r196 r197 r198 r199 r200 r201 r202 r203 r204 r205 r206 r207 r208 r209 r210 r211 r212 r213 r214 r215 : Value) (D' : Dk) (p' q' : Nat) (n : Int) (w' : World), Two B p' q' D' D' g #[.int .i64 A.d, .int .i64 A.n, .int .i64 A.a, .int .i64 A.k, bv, pv] 40 w' → MxD D' (k + 1) → Below B w3 w' → Q .normal { tmps := #[t0, t1, t2, .pointer (some ⟨p', 0, none⟩), t4, .pointer (some ⟨q', 0, none⟩), t6, .pointer (some ⟨g, 0, none⟩), .int .i64 n, .int .i64 n, t10, t11, t12, t13, t14, t15, t16, t17, r18, r19, t20, t21, t22, t23, t24, t25, t26, t27, t28, t29, t30, t31, t32, t33, t34, t35, t36, t37, t38, t39, t40, t41, t42, t43, t44, t45, t46, t47, t48, t49, t50, t51, t52, t53, t54, t55, t56, t57, t58, t59, t60, t61, t62, t63, t64, t65, t66, t67, t68, t69, t70, t71, t72, t73, t74, t75, t76, t77, t78, t79, t80, t81, t82, t83, t84, t85, t86, t87, t88, t89, t90, t91, t92, t93, t94, t95, t96, t97, t98, t99, t100, t101, t102, t103, t104, t105, t106, t107, t108, t109, t110, t111, t112, t113, t114, t115, t116, t117, t118, t119, t120, t121, t122, t123, t124, t125, t126, t127, t128, t129, t130, t131, t132, t133, t134, t135, t136, t137, t138, t139, t140, t141, t142, t143, t144, t145, t146, t147, t148, t149, t150, t151, t152, t153, t154, t155, t156, t157, t158, t159, t160, t161, t162, t163, t164, t165, t166, t167, t168, t169, t170, t171, t172, t173, t174, t175, t176, t177, t178, t179, t180, t181, t182, t183, t184, t185, t186, t187, t188, t189, t190, t191, r192, r193, r194, r195, r196, r197, r198, r199, r200, r201, r202, r203, r204, r205, r206, r207, r208, r209, r210, r211, r212, r213, r214, r215, t216, t217, t218, t219, t220, t221, t222, t223, t224, t225, t226, t227, t228, t229, t230, t231, t232, t233, t234, t235, t236, t237, t238], defers := [] } w') :
    C.wp Try.prog Q { tmps := #[t0, t1, t2, .pointer (some ⟨p, 0, none⟩), t4, .pointer (some ⟨q, 0, none⟩), t6, .pointer (some ⟨g, 0, none⟩), .int .i64 0, .int .i64 0, t10, t11, t12, t13, t14, t15, t16, t17, t18, t19, t20, t21, t22, t23, t24, t25, t26, t27, t28, t29, t30, t31, t32, t33, t34, t35, t36, t37, t38, t39, t40, t41, t42, t43, t44, t45, t46, t47, t48, t49, t50, t51, t52, t53, t54, t55, t56, t57, t58, t59, t60, t61, t62, t63, t64, t65, t66, t67, t68, t69, t70, t71, t72, t73, t74, t75, t76, t77, t78, t79, t80, t81, t82, t83, t84, t85, t86, t87, t88, t89, t90, t91, t92, t93, t94, t95, t96, t97, t98, t99, t100, t101, t102, t103, t104, t105, t106, t107, t108, t109, t110, t111, t112, t113, t114, t115, t116, t117, t118, t119, t120, t121, t122, t123, t124, t125, t126, t127, t128, t129, t130, t131, t132, t133, t134, t135, t136, t137, t138, t139, t140, t141, t142, t143, t144, t145, t146, t147, t148, t149, t150, t151, t152, t153, t154, t155, t156, t157, t158, t159, t160, t161, t162, t163, t164, t165, t166, t167, t168, t169, t170, t171, t172, t173, t174, t175, t176, t177, t178, t179, t180, t181, t182, t183, t184, t185, t186, t187, t188, t189, t190, t191, t192, t193, t194, t195, t196, t197, t198, t199, t200, t201, t202, t203, t204, t205, t206, t207, t208, t209, t210, t211, t212, t213, t214, t215, t216, t217, t218, t219, t220, t221, t222, t223, t224, t225, t226, t227, t228, t229, t230, t231, t232, t233, t234, t235, t236, t237, t238], defers := [] } w3 := by
  have HQ := Lib.hid hQ
  have HM := Lib.hid (HMX.out.lt (show k < 1000000 by omega))
  have c1 := H2.out.blk.c 1 (u := .int .i64 A.n) rfl
  have c2 := H2.out.blk.c 2 (u := .int .i64 A.a) rfl
  have c3 := H2.out.blk.c 3 (u := .int .i64 A.k) rfl
  have c4 := H2.out.blk.c 4 (u := bv) rfl
  have c5 := H2.out.blk.c 5 (u := pv) rfl
  have hB := H2.out.base
  have hg := H2.out.blk.lt
  have hpl3 := H2.out.ltK
  have hql3 := H2.out.ltR
  clear hQ
  subst hC
  unfold exactAt Try.f3
  simp only [codeAt, Option.getD_some]
  have HCP := Lib.hid (copyInts_any A.p pv w3 (HPV.out w3 (Below.refl _ _)) (by omega))
  go_wp2_with fail
  refine Calls.mono HCP.out ?_
  rintro e w4 ⟨u4, rfl, hu4, hb4⟩
  dsimp only
  have HK := Lib.hid (H2.out.crashes hb4 HM.out HM.out A.p u4 (irow_ia hu4) (fun _ k hk => by have := (World.ownsRow.lt hu4 k hk).1; omega))
  have hs4 := hb4.size
  have HB4 := Lib.hid (hb4.mono hB)
  have hp4 : p < w4.heap.size := by omega
  obtain ⟨uA, un, uc, rfl⟩ := irow_slice hu4
  clear hu4 hb4 HCP c1 c2 c3 c4 c5
  go_wp2_with fail
  refine Calls.mono HK.out ?_
  rintro e w5 ⟨x, us, rfl, hx5, h25, hb5, hr5⟩
  dsimp only
  have HX5 := Lib.hid hx5
  have HB5 := Lib.hid (HB4.out.trans hb5)
  have HR := Lib.hid (hr5 pv (HPV.out w5 HB5.out) (fun hne k hk => by have := HPB.out hne k hk; have := h25.geR; omega))
  have d5 := h25.blk.c 5 (u := pv) rfl
  have hs5 := hb5.size
  have hq5 := h25.ltR
  obtain ⟨xA, xc, rfl⟩ := hx5.slice
  have HFN := Lib.hid (H2.out.found A.p)
  clear hx5 h25 hb5 hr5 HK
  go_wp2_with fail
  refine Calls.mono HR.out ?_
  rintro e w6 ⟨y, ys, rfl, hy6, hx6, h26, hb6⟩
  dsimp only
  have HY6 := Lib.hid hy6
  have HX6 := Lib.hid hx6
  have HB6 := Lib.hid (HB5.out.trans hb6)
  have HG6 := Lib.hid h26.blk
  have hs6 := hb6.size
  have hB6 := h26.base
  obtain ⟨yA, yc, rfl⟩ := hy6.slice
  have HEQ := Lib.hid (eqCells_any _ _ _ w6 hx6.rc hy6.rc)
  clear hy6 hx6 h26 hb6 d5 HR
  generalize crashD D A.p = F at *
  go_wp2_with fail
  refine Calls.mono HEQ.out ?_
  rintro e w7 ⟨rfl, hb7⟩
  dsimp only
  have HX7 := Lib.hid (HX6.out.later hb7)
  have HY7 := Lib.hid (HY6.out.later hb7)
  have HG7 := Lib.hid (HG6.out.later hb7)
  have HB7 := Lib.hid (HB6.out.trans (hb7.mono hB6))
  have hs7 := hb7.size
  have HNK := Lib.hid (New_ok w7 F _ HX7.out.rc HFN.out.1)
  clear hb7 HEQ HX6 HY6 HG6
  go_wp2_with fail
  refine Calls.mono HNK.out ?_
  rintro e w8 ⟨p', rfl, hp8, hb8, hk8⟩
  dsimp only
  have HX8 := Lib.hid (HX7.out.later hb8)
  have HY8 := Lib.hid (HY7.out.later hb8)
  have HG8 := Lib.hid (HG7.out.later hb8)
  have HB8 := Lib.hid (HB7.out.trans (hb8.mono (by omega)))
  have HK8 := Lib.hid hk8
  have hs8 := hb8.size
  have HSP := Lib.hid (spoilCells_any F us _ w4.heap.size w8 (HX8.out.mono (Nat.le_succ _)) (by omega) HFN.out.2)
  clear hb8 hk8 HNK HX7 HY7 HG7
  go_wp2_with fail
  refine Calls.mono HSP.out ?_
  rintro e w9 ⟨rfl, hk9⟩
  dsimp only
  have hk9 : Kept (fun k => w4.heap.size + 1 ≤ k ∧ k < w5.heap.size) w8 w9 := hk9.mono fun k _ e => HX5.out.within k e
  have HY9 := Lib.hid (HY8.out.kept hk9 (fun k hk e => by omega))
  have HG9 := Lib.hid (HG8.out.kept hk9 (fun e => by omega))
  have HK9 := Lib.hid (HK8.out.step (hk9.mono fun k _ e => by omega))
  have HB9 := Lib.hid (HB8.out.trans (hk9.below (by omega) fun k hk e => by omega))
  have hs9 := hk9.size
  have HNR := Lib.hid (New_r F _ w9 HY9.out.rc HFN.out.1)
  clear hk9 HSP HX8 HY8 HG8 HK8
  go_wp2_with fail
  refine Calls.mono HNR.out ?_
  rintro e w10 ⟨q', rfl, hq10, hb10, hr10⟩
  dsimp only
  have HT := Lib.hid (Two.new (B := B) (cs := #[.int .i64 A.d, .int .i64 A.n, .int .i64 A.a, .int .i64 A.k, bv, pv]) (t := 40) (g := g) HK9.out hb10 hr10 (by omega) (HG9.out.later hb10) (by omega) (Nat.le_refl _))
  have HB10 := Lib.hid (HB9.out.trans (hb10.mono (by omega)))
  clear hb10 hr10 HNR HG9 HK9 HY9
  go_wp2_with fail
  refine HQ.out _ _ _ _ _ _ _ _ _ _ _ _ _ _ _ _ _ _ _ _ _ _ _ _ _ _ (newDk F) p' q' 0 _ HT.out ((MxD.new F).mono (Nat.zero_le _)) HB10.out
end Go.Proofs.Ytahmihdahgbhkaa
