/-
  GreenNames: the region of its rows over laid slots; what each example says.
-/
import Derived.Test.YtingfomfibhnhaaGreatDoorMgN1
import Derived.Test.YtingfomfibhnhaaGreatDoorMgN0
namespace Go.Proofs.YtingfomfibhnhaaGreatDoor
open Go Go.RowKit Go.Shelf

theorem act_laid (a : Act) (n : Nat) (hs : a.tmps.size = n) : a = { tmps := ((List.range n).map fun i => a.eval (.tmp i)).toArray, defers := a.defers } := by
  obtain ⟨ts, ds⟩ := a
  show Act.mk ts ds = Act.mk _ ds
  congr 1
  apply Array.ext
  · simpa using hs
  · intro i h1 h2
    simp [Act.eval, Array.getD_eq_getD_getElem?, Array.getElem?_eq_getElem h1]
set_option maxRecDepth 100000 in
set_option maxHeartbeats 8000000 in
theorem names_region {id : Nat} (t0 t3 t4 t5 t6 t7 t8 t9 t10 t11 t12 t13 t14 t15 t16 t17 t18 t19 t20 t21 t22 t23 t24 t25 t26 t27 t28 t29 t30 t31 t32 t33 t34 t35 t36 t37 t38 t39 t40 t41 t42 t43 t44 t45 t46 t47 t48 t49 t50 t51 t52 t53 t54 t55 t56 t57 t58 t59 t60 t61 t62 t63 t64 t65 t66 t67 t68 t69 t70 t71 t72 t73 t74 t75 t76 t77 t78 t79 t80 t81 t82 t83 t84 t85 t86 t87 t88 t89 t90 t91 t92 t93 t94 t95 t96 t97 t98 t99 t100 t101 t102 t103 t104 t105 t106 t107 t108 t109 t110 t111 t112 t113 t114 t115 t116 t117 t118 t119 t120 t121 t122 t123 t124 t125 t126 t127 t128 t129 t130 t131 t132 t133 t134 t135 t136 t137 t138 t139 t140 t141 t142 t143 t144 t145 t146 t147 t148 t149 t150 t151 t152 t153 t154 t155 t156 t157 t158 t159 t160 t161 t162 t163 t164 t165 t166 t167 t168 t169 t170 t171 t172 t173 t174 t175 t176 t177 t178 t179 t180 t181 t182 t183 t184 t185 t186 t187 t188 t189 t190 t191 t192 t193 t194 t195 t196 t197 t198 t199 t200 t201 t202 t203 t204 t205 t206 t207 t208 t209 t210 t211 t212 t213 t214 t215 t216 t217 t218 t219 t220 t221 t222 t223 t224 t225 t226 t227 t228 t229 t230 t231 t232 t233 t234 t235 t236 t237 t238 t239 t240 t241 t242 t243 t244 t245 t246 t247 t248 t249 t250 t251 t252 t253 t254 t255 t256 t257 t258 t259 t260 t261 t262 t263 t264 t265 t266 t267 t268 t269 t270 t271 t272 t273 t274 t275 t276 t277 t278 t279 t280 t281 t282 t283 t284 t285 t286 t287 t288 t289 t290 t291 t292 t293 : Value) (g : Nat) (W0 : World) (Q : Exit → Act → World → Prop) (hx : BoxAt W0 g (.mk 1 (4, [120]) []))
    (hend : ∀ (y41 y42 y43 y44 y45 y46 y47 y48 y49 y50 y51 y52 y53 y54 y55 y56 y57 y58 y59 y60 y61 y62 y63 y64 y65 y66 y67 y68 y69 y70 y71 y72 y73 y74 y75 y76 y77 y78 y79 y80 y81 y82 y83 y84 y85 y86 y87 y88 y89 y90 y91 y92 y93 y94 y95 y96 y97 y98 y99 y100 y101 y102 y103 y104 y105 y106 y107 y108 y109 y110 y111 y112 y113 y114 y115 y116 y117 y118 y119 y120 y121 y122 y123 y124 y125 y126 y127 y128 y129 y130 y131 y132 y133 y134 y135 y136 y137 y138 y139 y140 y141 y142 y143 y144 y145 y146 y147 y148 y149 y150 y151 y152 : Value) (G : Nat) (w : World), Below W0.heap.size W0 w → Is (.rows casesL) w (.slice (some ⟨G, 0, none⟩) 22 22) → Q .normal { tmps := #[t0, .func (.func 9) #[] #[], .pointer (some ⟨g, 0, none⟩), t3, t4, t5, t6, t7, t8, t9, t10, t11, t12, t13, t14, t15, t16, t17, t18, t19, t20, t21, t22, t23, t24, t25, t26, t27, t28, t29, t30, t31, t32, t33, t34, t35, t36, t37, t38, t39, t40, y41, y42, y43, y44, y45, y46, y47, y48, y49, y50, y51, y52, y53, y54, y55, y56, y57, y58, y59, y60, y61, y62, y63, y64, y65, y66, y67, y68, y69, y70, y71, y72, y73, y74, y75, y76, y77, y78, y79, y80, y81, y82, y83, y84, y85, y86, y87, y88, y89, y90, y91, y92, y93, y94, y95, y96, y97, y98, y99, y100, y101, y102, y103, y104, y105, y106, y107, y108, y109, y110, y111, y112, y113, y114, y115, y116, y117, y118, y119, y120, y121, y122, y123, y124, y125, y126, y127, y128, y129, y130, y131, y132, y133, y134, y135, y136, y137, y138, y139, y140, y141, y142, y143, y144, y145, y146, y147, y148, y149, y150, y151, y152, .slice (some ⟨G, 0, none⟩) 22 22, .int .i64 22, .int .i64 0, t156, t157, t158, t159, t160, t161, t162, t163, t164, t165, t166, t167, t168, t169, t170, t171, t172, t173, t174, t175, t176, t177, t178, t179, t180, t181, t182, t183, t184, t185, t186, t187, t188, t189, t190, t191, t192, t193, t194, t195, t196, t197, t198, t199, t200, t201, t202, t203, t204, t205, t206, t207, t208, t209, t210, t211, t212, t213, t214, t215, t216, t217, t218, t219, t220, t221, t222, t223, t224, t225, t226, t227, t228, t229, t230, t231, t232, t233, t234, t235, t236, t237, t238, t239, t240, t241, t242, t243, t244, t245, t246, t247, t248, t249, t250, t251, t252, t253, t254, t255, t256, t257, t258, t259, t260, t261, t262, t263, t264, t265, t266, t267, t268, t269, t270, t271, t272, t273, t274, t275, t276, t277, t278, t279, t280, t281, t282, t283, t284, t285, t286, t287, t288, t289, t290, t291, t292, t293], defers := [] } w) :
    (Code.region id namesOps true).wp Tryz.prog Q { tmps := #[t0, .func (.func 9) #[] #[], .pointer (some ⟨g, 0, none⟩), t3, t4, t5, t6, t7, t8, t9, t10, t11, t12, t13, t14, t15, t16, t17, t18, t19, t20, t21, t22, t23, t24, t25, t26, t27, t28, t29, t30, t31, t32, t33, t34, t35, t36, t37, t38, t39, t40, t41, t42, t43, t44, t45, t46, t47, t48, t49, t50, t51, t52, t53, t54, t55, t56, t57, t58, t59, t60, t61, t62, t63, t64, t65, t66, t67, t68, t69, t70, t71, t72, t73, t74, t75, t76, t77, t78, t79, t80, t81, t82, t83, t84, t85, t86, t87, t88, t89, t90, t91, t92, t93, t94, t95, t96, t97, t98, t99, t100, t101, t102, t103, t104, t105, t106, t107, t108, t109, t110, t111, t112, t113, t114, t115, t116, t117, t118, t119, t120, t121, t122, t123, t124, t125, t126, t127, t128, t129, t130, t131, t132, t133, t134, t135, t136, t137, t138, t139, t140, t141, t142, t143, t144, t145, t146, t147, t148, t149, t150, t151, t152, t153, t154, t155, t156, t157, t158, t159, t160, t161, t162, t163, t164, t165, t166, t167, t168, t169, t170, t171, t172, t173, t174, t175, t176, t177, t178, t179, t180, t181, t182, t183, t184, t185, t186, t187, t188, t189, t190, t191, t192, t193, t194, t195, t196, t197, t198, t199, t200, t201, t202, t203, t204, t205, t206, t207, t208, t209, t210, t211, t212, t213, t214, t215, t216, t217, t218, t219, t220, t221, t222, t223, t224, t225, t226, t227, t228, t229, t230, t231, t232, t233, t234, t235, t236, t237, t238, t239, t240, t241, t242, t243, t244, t245, t246, t247, t248, t249, t250, t251, t252, t253, t254, t255, t256, t257, t258, t259, t260, t261, t262, t263, t264, t265, t266, t267, t268, t269, t270, t271, t272, t273, t274, t275, t276, t277, t278, t279, t280, t281, t282, t283, t284, t285, t286, t287, t288, t289, t290, t291, t292, t293], defers := [] } W0 := by
  refine names_rows (g := g) rfl rfl rfl hx (fun a w hb hs hd ho h1 h2 h3 => ?_)
  have e := act_laid a 294 hs
  rw [hd] at e
  obtain ⟨G, h4, h5⟩ := h1
  have h1 : Is (.rows casesL) w (.slice (some ⟨G, 0, none⟩) 22 22) := ⟨G, rfl, h5⟩
  have q : ∀ d, outB namesOps d = true → a.eval (.tmp d) = ({ tmps := #[t0, .func (.func 9) #[] #[], .pointer (some ⟨g, 0, none⟩), t3, t4, t5, t6, t7, t8, t9, t10, t11, t12, t13, t14, t15, t16, t17, t18, t19, t20, t21, t22, t23, t24, t25, t26, t27, t28, t29, t30, t31, t32, t33, t34, t35, t36, t37, t38, t39, t40, t41, t42, t43, t44, t45, t46, t47, t48, t49, t50, t51, t52, t53, t54, t55, t56, t57, t58, t59, t60, t61, t62, t63, t64, t65, t66, t67, t68, t69, t70, t71, t72, t73, t74, t75, t76, t77, t78, t79, t80, t81, t82, t83, t84, t85, t86, t87, t88, t89, t90, t91, t92, t93, t94, t95, t96, t97, t98, t99, t100, t101, t102, t103, t104, t105, t106, t107, t108, t109, t110, t111, t112, t113, t114, t115, t116, t117, t118, t119, t120, t121, t122, t123, t124, t125, t126, t127, t128, t129, t130, t131, t132, t133, t134, t135, t136, t137, t138, t139, t140, t141, t142, t143, t144, t145, t146, t147, t148, t149, t150, t151, t152, t153, t154, t155, t156, t157, t158, t159, t160, t161, t162, t163, t164, t165, t166, t167, t168, t169, t170, t171, t172, t173, t174, t175, t176, t177, t178, t179, t180, t181, t182, t183, t184, t185, t186, t187, t188, t189, t190, t191, t192, t193, t194, t195, t196, t197, t198, t199, t200, t201, t202, t203, t204, t205, t206, t207, t208, t209, t210, t211, t212, t213, t214, t215, t216, t217, t218, t219, t220, t221, t222, t223, t224, t225, t226, t227, t228, t229, t230, t231, t232, t233, t234, t235, t236, t237, t238, t239, t240, t241, t242, t243, t244, t245, t246, t247, t248, t249, t250, t251, t252, t253, t254, t255, t256, t257, t258, t259, t260, t261, t262, t263, t264, t265, t266, t267, t268, t269, t270, t271, t272, t273, t274, t275, t276, t277, t278, t279, t280, t281, t282, t283, t284, t285, t286, t287, t288, t289, t290, t291, t292, t293], defers := [] } : Act).eval (.tmp d) := fun d hd => by show a.tmps.getD d undef = _; rw [Array.getD_eq_getD_getElem?, ho d hd, ← Array.getD_eq_getD_getElem?]; rfl
  have q0 : a.eval (.tmp 0) = t0 := q 0 (by decide +kernel)
  have q1 : a.eval (.tmp 1) = .func (.func 9) #[] #[] := q 1 (by decide +kernel)
  have q2 : a.eval (.tmp 2) = .pointer (some ⟨g, 0, none⟩) := q 2 (by decide +kernel)
  have q3 : a.eval (.tmp 3) = t3 := q 3 (by decide +kernel)
  have q4 : a.eval (.tmp 4) = t4 := q 4 (by decide +kernel)
  have q5 : a.eval (.tmp 5) = t5 := q 5 (by decide +kernel)
  have q6 : a.eval (.tmp 6) = t6 := q 6 (by decide +kernel)
  have q7 : a.eval (.tmp 7) = t7 := q 7 (by decide +kernel)
  have q8 : a.eval (.tmp 8) = t8 := q 8 (by decide +kernel)
  have q9 : a.eval (.tmp 9) = t9 := q 9 (by decide +kernel)
  have q10 : a.eval (.tmp 10) = t10 := q 10 (by decide +kernel)
  have q11 : a.eval (.tmp 11) = t11 := q 11 (by decide +kernel)
  have q12 : a.eval (.tmp 12) = t12 := q 12 (by decide +kernel)
  have q13 : a.eval (.tmp 13) = t13 := q 13 (by decide +kernel)
  have q14 : a.eval (.tmp 14) = t14 := q 14 (by decide +kernel)
  have q15 : a.eval (.tmp 15) = t15 := q 15 (by decide +kernel)
  have q16 : a.eval (.tmp 16) = t16 := q 16 (by decide +kernel)
  have q17 : a.eval (.tmp 17) = t17 := q 17 (by decide +kernel)
  have q18 : a.eval (.tmp 18) = t18 := q 18 (by decide +kernel)
  have q19 : a.eval (.tmp 19) = t19 := q 19 (by decide +kernel)
  have q20 : a.eval (.tmp 20) = t20 := q 20 (by decide +kernel)
  have q21 : a.eval (.tmp 21) = t21 := q 21 (by decide +kernel)
  have q22 : a.eval (.tmp 22) = t22 := q 22 (by decide +kernel)
  have q23 : a.eval (.tmp 23) = t23 := q 23 (by decide +kernel)
  have q24 : a.eval (.tmp 24) = t24 := q 24 (by decide +kernel)
  have q25 : a.eval (.tmp 25) = t25 := q 25 (by decide +kernel)
  have q26 : a.eval (.tmp 26) = t26 := q 26 (by decide +kernel)
  have q27 : a.eval (.tmp 27) = t27 := q 27 (by decide +kernel)
  have q28 : a.eval (.tmp 28) = t28 := q 28 (by decide +kernel)
  have q29 : a.eval (.tmp 29) = t29 := q 29 (by decide +kernel)
  have q30 : a.eval (.tmp 30) = t30 := q 30 (by decide +kernel)
  have q31 : a.eval (.tmp 31) = t31 := q 31 (by decide +kernel)
  have q32 : a.eval (.tmp 32) = t32 := q 32 (by decide +kernel)
  have q33 : a.eval (.tmp 33) = t33 := q 33 (by decide +kernel)
  have q34 : a.eval (.tmp 34) = t34 := q 34 (by decide +kernel)
  have q35 : a.eval (.tmp 35) = t35 := q 35 (by decide +kernel)
  have q36 : a.eval (.tmp 36) = t36 := q 36 (by decide +kernel)
  have q37 : a.eval (.tmp 37) = t37 := q 37 (by decide +kernel)
  have q38 : a.eval (.tmp 38) = t38 := q 38 (by decide +kernel)
  have q39 : a.eval (.tmp 39) = t39 := q 39 (by decide +kernel)
  have q40 : a.eval (.tmp 40) = t40 := q 40 (by decide +kernel)
  have q156 : a.eval (.tmp 156) = t156 := q 156 (by decide +kernel)
  have q157 : a.eval (.tmp 157) = t157 := q 157 (by decide +kernel)
  have q158 : a.eval (.tmp 158) = t158 := q 158 (by decide +kernel)
  have q159 : a.eval (.tmp 159) = t159 := q 159 (by decide +kernel)
  have q160 : a.eval (.tmp 160) = t160 := q 160 (by decide +kernel)
  have q161 : a.eval (.tmp 161) = t161 := q 161 (by decide +kernel)
  have q162 : a.eval (.tmp 162) = t162 := q 162 (by decide +kernel)
  have q163 : a.eval (.tmp 163) = t163 := q 163 (by decide +kernel)
  have q164 : a.eval (.tmp 164) = t164 := q 164 (by decide +kernel)
  have q165 : a.eval (.tmp 165) = t165 := q 165 (by decide +kernel)
  have q166 : a.eval (.tmp 166) = t166 := q 166 (by decide +kernel)
  have q167 : a.eval (.tmp 167) = t167 := q 167 (by decide +kernel)
  have q168 : a.eval (.tmp 168) = t168 := q 168 (by decide +kernel)
  have q169 : a.eval (.tmp 169) = t169 := q 169 (by decide +kernel)
  have q170 : a.eval (.tmp 170) = t170 := q 170 (by decide +kernel)
  have q171 : a.eval (.tmp 171) = t171 := q 171 (by decide +kernel)
  have q172 : a.eval (.tmp 172) = t172 := q 172 (by decide +kernel)
  have q173 : a.eval (.tmp 173) = t173 := q 173 (by decide +kernel)
  have q174 : a.eval (.tmp 174) = t174 := q 174 (by decide +kernel)
  have q175 : a.eval (.tmp 175) = t175 := q 175 (by decide +kernel)
  have q176 : a.eval (.tmp 176) = t176 := q 176 (by decide +kernel)
  have q177 : a.eval (.tmp 177) = t177 := q 177 (by decide +kernel)
  have q178 : a.eval (.tmp 178) = t178 := q 178 (by decide +kernel)
  have q179 : a.eval (.tmp 179) = t179 := q 179 (by decide +kernel)
  have q180 : a.eval (.tmp 180) = t180 := q 180 (by decide +kernel)
  have q181 : a.eval (.tmp 181) = t181 := q 181 (by decide +kernel)
  have q182 : a.eval (.tmp 182) = t182 := q 182 (by decide +kernel)
  have q183 : a.eval (.tmp 183) = t183 := q 183 (by decide +kernel)
  have q184 : a.eval (.tmp 184) = t184 := q 184 (by decide +kernel)
  have q185 : a.eval (.tmp 185) = t185 := q 185 (by decide +kernel)
  have q186 : a.eval (.tmp 186) = t186 := q 186 (by decide +kernel)
  have q187 : a.eval (.tmp 187) = t187 := q 187 (by decide +kernel)
  have q188 : a.eval (.tmp 188) = t188 := q 188 (by decide +kernel)
  have q189 : a.eval (.tmp 189) = t189 := q 189 (by decide +kernel)
  have q190 : a.eval (.tmp 190) = t190 := q 190 (by decide +kernel)
  have q191 : a.eval (.tmp 191) = t191 := q 191 (by decide +kernel)
  have q192 : a.eval (.tmp 192) = t192 := q 192 (by decide +kernel)
  have q193 : a.eval (.tmp 193) = t193 := q 193 (by decide +kernel)
  have q194 : a.eval (.tmp 194) = t194 := q 194 (by decide +kernel)
  have q195 : a.eval (.tmp 195) = t195 := q 195 (by decide +kernel)
  have q196 : a.eval (.tmp 196) = t196 := q 196 (by decide +kernel)
  have q197 : a.eval (.tmp 197) = t197 := q 197 (by decide +kernel)
  have q198 : a.eval (.tmp 198) = t198 := q 198 (by decide +kernel)
  have q199 : a.eval (.tmp 199) = t199 := q 199 (by decide +kernel)
  have q200 : a.eval (.tmp 200) = t200 := q 200 (by decide +kernel)
  have q201 : a.eval (.tmp 201) = t201 := q 201 (by decide +kernel)
  have q202 : a.eval (.tmp 202) = t202 := q 202 (by decide +kernel)
  have q203 : a.eval (.tmp 203) = t203 := q 203 (by decide +kernel)
  have q204 : a.eval (.tmp 204) = t204 := q 204 (by decide +kernel)
  have q205 : a.eval (.tmp 205) = t205 := q 205 (by decide +kernel)
  have q206 : a.eval (.tmp 206) = t206 := q 206 (by decide +kernel)
  have q207 : a.eval (.tmp 207) = t207 := q 207 (by decide +kernel)
  have q208 : a.eval (.tmp 208) = t208 := q 208 (by decide +kernel)
  have q209 : a.eval (.tmp 209) = t209 := q 209 (by decide +kernel)
  have q210 : a.eval (.tmp 210) = t210 := q 210 (by decide +kernel)
  have q211 : a.eval (.tmp 211) = t211 := q 211 (by decide +kernel)
  have q212 : a.eval (.tmp 212) = t212 := q 212 (by decide +kernel)
  have q213 : a.eval (.tmp 213) = t213 := q 213 (by decide +kernel)
  have q214 : a.eval (.tmp 214) = t214 := q 214 (by decide +kernel)
  have q215 : a.eval (.tmp 215) = t215 := q 215 (by decide +kernel)
  have q216 : a.eval (.tmp 216) = t216 := q 216 (by decide +kernel)
  have q217 : a.eval (.tmp 217) = t217 := q 217 (by decide +kernel)
  have q218 : a.eval (.tmp 218) = t218 := q 218 (by decide +kernel)
  have q219 : a.eval (.tmp 219) = t219 := q 219 (by decide +kernel)
  have q220 : a.eval (.tmp 220) = t220 := q 220 (by decide +kernel)
  have q221 : a.eval (.tmp 221) = t221 := q 221 (by decide +kernel)
  have q222 : a.eval (.tmp 222) = t222 := q 222 (by decide +kernel)
  have q223 : a.eval (.tmp 223) = t223 := q 223 (by decide +kernel)
  have q224 : a.eval (.tmp 224) = t224 := q 224 (by decide +kernel)
  have q225 : a.eval (.tmp 225) = t225 := q 225 (by decide +kernel)
  have q226 : a.eval (.tmp 226) = t226 := q 226 (by decide +kernel)
  have q227 : a.eval (.tmp 227) = t227 := q 227 (by decide +kernel)
  have q228 : a.eval (.tmp 228) = t228 := q 228 (by decide +kernel)
  have q229 : a.eval (.tmp 229) = t229 := q 229 (by decide +kernel)
  have q230 : a.eval (.tmp 230) = t230 := q 230 (by decide +kernel)
  have q231 : a.eval (.tmp 231) = t231 := q 231 (by decide +kernel)
  have q232 : a.eval (.tmp 232) = t232 := q 232 (by decide +kernel)
  have q233 : a.eval (.tmp 233) = t233 := q 233 (by decide +kernel)
  have q234 : a.eval (.tmp 234) = t234 := q 234 (by decide +kernel)
  have q235 : a.eval (.tmp 235) = t235 := q 235 (by decide +kernel)
  have q236 : a.eval (.tmp 236) = t236 := q 236 (by decide +kernel)
  have q237 : a.eval (.tmp 237) = t237 := q 237 (by decide +kernel)
  have q238 : a.eval (.tmp 238) = t238 := q 238 (by decide +kernel)
  have q239 : a.eval (.tmp 239) = t239 := q 239 (by decide +kernel)
  have q240 : a.eval (.tmp 240) = t240 := q 240 (by decide +kernel)
  have q241 : a.eval (.tmp 241) = t241 := q 241 (by decide +kernel)
  have q242 : a.eval (.tmp 242) = t242 := q 242 (by decide +kernel)
  have q243 : a.eval (.tmp 243) = t243 := q 243 (by decide +kernel)
  have q244 : a.eval (.tmp 244) = t244 := q 244 (by decide +kernel)
  have q245 : a.eval (.tmp 245) = t245 := q 245 (by decide +kernel)
  have q246 : a.eval (.tmp 246) = t246 := q 246 (by decide +kernel)
  have q247 : a.eval (.tmp 247) = t247 := q 247 (by decide +kernel)
  have q248 : a.eval (.tmp 248) = t248 := q 248 (by decide +kernel)
  have q249 : a.eval (.tmp 249) = t249 := q 249 (by decide +kernel)
  have q250 : a.eval (.tmp 250) = t250 := q 250 (by decide +kernel)
  have q251 : a.eval (.tmp 251) = t251 := q 251 (by decide +kernel)
  have q252 : a.eval (.tmp 252) = t252 := q 252 (by decide +kernel)
  have q253 : a.eval (.tmp 253) = t253 := q 253 (by decide +kernel)
  have q254 : a.eval (.tmp 254) = t254 := q 254 (by decide +kernel)
  have q255 : a.eval (.tmp 255) = t255 := q 255 (by decide +kernel)
  have q256 : a.eval (.tmp 256) = t256 := q 256 (by decide +kernel)
  have q257 : a.eval (.tmp 257) = t257 := q 257 (by decide +kernel)
  have q258 : a.eval (.tmp 258) = t258 := q 258 (by decide +kernel)
  have q259 : a.eval (.tmp 259) = t259 := q 259 (by decide +kernel)
  have q260 : a.eval (.tmp 260) = t260 := q 260 (by decide +kernel)
  have q261 : a.eval (.tmp 261) = t261 := q 261 (by decide +kernel)
  have q262 : a.eval (.tmp 262) = t262 := q 262 (by decide +kernel)
  have q263 : a.eval (.tmp 263) = t263 := q 263 (by decide +kernel)
  have q264 : a.eval (.tmp 264) = t264 := q 264 (by decide +kernel)
  have q265 : a.eval (.tmp 265) = t265 := q 265 (by decide +kernel)
  have q266 : a.eval (.tmp 266) = t266 := q 266 (by decide +kernel)
  have q267 : a.eval (.tmp 267) = t267 := q 267 (by decide +kernel)
  have q268 : a.eval (.tmp 268) = t268 := q 268 (by decide +kernel)
  have q269 : a.eval (.tmp 269) = t269 := q 269 (by decide +kernel)
  have q270 : a.eval (.tmp 270) = t270 := q 270 (by decide +kernel)
  have q271 : a.eval (.tmp 271) = t271 := q 271 (by decide +kernel)
  have q272 : a.eval (.tmp 272) = t272 := q 272 (by decide +kernel)
  have q273 : a.eval (.tmp 273) = t273 := q 273 (by decide +kernel)
  have q274 : a.eval (.tmp 274) = t274 := q 274 (by decide +kernel)
  have q275 : a.eval (.tmp 275) = t275 := q 275 (by decide +kernel)
  have q276 : a.eval (.tmp 276) = t276 := q 276 (by decide +kernel)
  have q277 : a.eval (.tmp 277) = t277 := q 277 (by decide +kernel)
  have q278 : a.eval (.tmp 278) = t278 := q 278 (by decide +kernel)
  have q279 : a.eval (.tmp 279) = t279 := q 279 (by decide +kernel)
  have q280 : a.eval (.tmp 280) = t280 := q 280 (by decide +kernel)
  have q281 : a.eval (.tmp 281) = t281 := q 281 (by decide +kernel)
  have q282 : a.eval (.tmp 282) = t282 := q 282 (by decide +kernel)
  have q283 : a.eval (.tmp 283) = t283 := q 283 (by decide +kernel)
  have q284 : a.eval (.tmp 284) = t284 := q 284 (by decide +kernel)
  have q285 : a.eval (.tmp 285) = t285 := q 285 (by decide +kernel)
  have q286 : a.eval (.tmp 286) = t286 := q 286 (by decide +kernel)
  have q287 : a.eval (.tmp 287) = t287 := q 287 (by decide +kernel)
  have q288 : a.eval (.tmp 288) = t288 := q 288 (by decide +kernel)
  have q289 : a.eval (.tmp 289) = t289 := q 289 (by decide +kernel)
  have q290 : a.eval (.tmp 290) = t290 := q 290 (by decide +kernel)
  have q291 : a.eval (.tmp 291) = t291 := q 291 (by decide +kernel)
  have q292 : a.eval (.tmp 292) = t292 := q 292 (by decide +kernel)
  have q293 : a.eval (.tmp 293) = t293 := q 293 (by decide +kernel)
  clear q ho hs hd
  have e2 : ((List.range 294).map fun i => a.eval (.tmp i)).toArray = #[a.eval (.tmp 0), a.eval (.tmp 1), a.eval (.tmp 2), a.eval (.tmp 3), a.eval (.tmp 4), a.eval (.tmp 5), a.eval (.tmp 6), a.eval (.tmp 7), a.eval (.tmp 8), a.eval (.tmp 9), a.eval (.tmp 10), a.eval (.tmp 11), a.eval (.tmp 12), a.eval (.tmp 13), a.eval (.tmp 14), a.eval (.tmp 15), a.eval (.tmp 16), a.eval (.tmp 17), a.eval (.tmp 18), a.eval (.tmp 19), a.eval (.tmp 20), a.eval (.tmp 21), a.eval (.tmp 22), a.eval (.tmp 23), a.eval (.tmp 24), a.eval (.tmp 25), a.eval (.tmp 26), a.eval (.tmp 27), a.eval (.tmp 28), a.eval (.tmp 29), a.eval (.tmp 30), a.eval (.tmp 31), a.eval (.tmp 32), a.eval (.tmp 33), a.eval (.tmp 34), a.eval (.tmp 35), a.eval (.tmp 36), a.eval (.tmp 37), a.eval (.tmp 38), a.eval (.tmp 39), a.eval (.tmp 40), a.eval (.tmp 41), a.eval (.tmp 42), a.eval (.tmp 43), a.eval (.tmp 44), a.eval (.tmp 45), a.eval (.tmp 46), a.eval (.tmp 47), a.eval (.tmp 48), a.eval (.tmp 49), a.eval (.tmp 50), a.eval (.tmp 51), a.eval (.tmp 52), a.eval (.tmp 53), a.eval (.tmp 54), a.eval (.tmp 55), a.eval (.tmp 56), a.eval (.tmp 57), a.eval (.tmp 58), a.eval (.tmp 59), a.eval (.tmp 60), a.eval (.tmp 61), a.eval (.tmp 62), a.eval (.tmp 63), a.eval (.tmp 64), a.eval (.tmp 65), a.eval (.tmp 66), a.eval (.tmp 67), a.eval (.tmp 68), a.eval (.tmp 69), a.eval (.tmp 70), a.eval (.tmp 71), a.eval (.tmp 72), a.eval (.tmp 73), a.eval (.tmp 74), a.eval (.tmp 75), a.eval (.tmp 76), a.eval (.tmp 77), a.eval (.tmp 78), a.eval (.tmp 79), a.eval (.tmp 80), a.eval (.tmp 81), a.eval (.tmp 82), a.eval (.tmp 83), a.eval (.tmp 84), a.eval (.tmp 85), a.eval (.tmp 86), a.eval (.tmp 87), a.eval (.tmp 88), a.eval (.tmp 89), a.eval (.tmp 90), a.eval (.tmp 91), a.eval (.tmp 92), a.eval (.tmp 93), a.eval (.tmp 94), a.eval (.tmp 95), a.eval (.tmp 96), a.eval (.tmp 97), a.eval (.tmp 98), a.eval (.tmp 99), a.eval (.tmp 100), a.eval (.tmp 101), a.eval (.tmp 102), a.eval (.tmp 103), a.eval (.tmp 104), a.eval (.tmp 105), a.eval (.tmp 106), a.eval (.tmp 107), a.eval (.tmp 108), a.eval (.tmp 109), a.eval (.tmp 110), a.eval (.tmp 111), a.eval (.tmp 112), a.eval (.tmp 113), a.eval (.tmp 114), a.eval (.tmp 115), a.eval (.tmp 116), a.eval (.tmp 117), a.eval (.tmp 118), a.eval (.tmp 119), a.eval (.tmp 120), a.eval (.tmp 121), a.eval (.tmp 122), a.eval (.tmp 123), a.eval (.tmp 124), a.eval (.tmp 125), a.eval (.tmp 126), a.eval (.tmp 127), a.eval (.tmp 128), a.eval (.tmp 129), a.eval (.tmp 130), a.eval (.tmp 131), a.eval (.tmp 132), a.eval (.tmp 133), a.eval (.tmp 134), a.eval (.tmp 135), a.eval (.tmp 136), a.eval (.tmp 137), a.eval (.tmp 138), a.eval (.tmp 139), a.eval (.tmp 140), a.eval (.tmp 141), a.eval (.tmp 142), a.eval (.tmp 143), a.eval (.tmp 144), a.eval (.tmp 145), a.eval (.tmp 146), a.eval (.tmp 147), a.eval (.tmp 148), a.eval (.tmp 149), a.eval (.tmp 150), a.eval (.tmp 151), a.eval (.tmp 152), a.eval (.tmp 153), a.eval (.tmp 154), a.eval (.tmp 155), a.eval (.tmp 156), a.eval (.tmp 157), a.eval (.tmp 158), a.eval (.tmp 159), a.eval (.tmp 160), a.eval (.tmp 161), a.eval (.tmp 162), a.eval (.tmp 163), a.eval (.tmp 164), a.eval (.tmp 165), a.eval (.tmp 166), a.eval (.tmp 167), a.eval (.tmp 168), a.eval (.tmp 169), a.eval (.tmp 170), a.eval (.tmp 171), a.eval (.tmp 172), a.eval (.tmp 173), a.eval (.tmp 174), a.eval (.tmp 175), a.eval (.tmp 176), a.eval (.tmp 177), a.eval (.tmp 178), a.eval (.tmp 179), a.eval (.tmp 180), a.eval (.tmp 181), a.eval (.tmp 182), a.eval (.tmp 183), a.eval (.tmp 184), a.eval (.tmp 185), a.eval (.tmp 186), a.eval (.tmp 187), a.eval (.tmp 188), a.eval (.tmp 189), a.eval (.tmp 190), a.eval (.tmp 191), a.eval (.tmp 192), a.eval (.tmp 193), a.eval (.tmp 194), a.eval (.tmp 195), a.eval (.tmp 196), a.eval (.tmp 197), a.eval (.tmp 198), a.eval (.tmp 199), a.eval (.tmp 200), a.eval (.tmp 201), a.eval (.tmp 202), a.eval (.tmp 203), a.eval (.tmp 204), a.eval (.tmp 205), a.eval (.tmp 206), a.eval (.tmp 207), a.eval (.tmp 208), a.eval (.tmp 209), a.eval (.tmp 210), a.eval (.tmp 211), a.eval (.tmp 212), a.eval (.tmp 213), a.eval (.tmp 214), a.eval (.tmp 215), a.eval (.tmp 216), a.eval (.tmp 217), a.eval (.tmp 218), a.eval (.tmp 219), a.eval (.tmp 220), a.eval (.tmp 221), a.eval (.tmp 222), a.eval (.tmp 223), a.eval (.tmp 224), a.eval (.tmp 225), a.eval (.tmp 226), a.eval (.tmp 227), a.eval (.tmp 228), a.eval (.tmp 229), a.eval (.tmp 230), a.eval (.tmp 231), a.eval (.tmp 232), a.eval (.tmp 233), a.eval (.tmp 234), a.eval (.tmp 235), a.eval (.tmp 236), a.eval (.tmp 237), a.eval (.tmp 238), a.eval (.tmp 239), a.eval (.tmp 240), a.eval (.tmp 241), a.eval (.tmp 242), a.eval (.tmp 243), a.eval (.tmp 244), a.eval (.tmp 245), a.eval (.tmp 246), a.eval (.tmp 247), a.eval (.tmp 248), a.eval (.tmp 249), a.eval (.tmp 250), a.eval (.tmp 251), a.eval (.tmp 252), a.eval (.tmp 253), a.eval (.tmp 254), a.eval (.tmp 255), a.eval (.tmp 256), a.eval (.tmp 257), a.eval (.tmp 258), a.eval (.tmp 259), a.eval (.tmp 260), a.eval (.tmp 261), a.eval (.tmp 262), a.eval (.tmp 263), a.eval (.tmp 264), a.eval (.tmp 265), a.eval (.tmp 266), a.eval (.tmp 267), a.eval (.tmp 268), a.eval (.tmp 269), a.eval (.tmp 270), a.eval (.tmp 271), a.eval (.tmp 272), a.eval (.tmp 273), a.eval (.tmp 274), a.eval (.tmp 275), a.eval (.tmp 276), a.eval (.tmp 277), a.eval (.tmp 278), a.eval (.tmp 279), a.eval (.tmp 280), a.eval (.tmp 281), a.eval (.tmp 282), a.eval (.tmp 283), a.eval (.tmp 284), a.eval (.tmp 285), a.eval (.tmp 286), a.eval (.tmp 287), a.eval (.tmp 288), a.eval (.tmp 289), a.eval (.tmp 290), a.eval (.tmp 291), a.eval (.tmp 292), a.eval (.tmp 293)] := rfl
  have h4 : a.eval (.tmp 153) = .slice (some ⟨G, 0, none⟩) 22 22 := h4
  rw [e2, q0, q1, q2, q3, q4, q5, q6, q7, q8, q9, q10, q11, q12, q13, q14, q15, q16, q17, q18, q19, q20, q21, q22, q23, q24, q25, q26, q27, q28, q29, q30, q31, q32, q33, q34, q35, q36, q37, q38, q39, q40, q156, q157, q158, q159, q160, q161, q162, q163, q164, q165, q166, q167, q168, q169, q170, q171, q172, q173, q174, q175, q176, q177, q178, q179, q180, q181, q182, q183, q184, q185, q186, q187, q188, q189, q190, q191, q192, q193, q194, q195, q196, q197, q198, q199, q200, q201, q202, q203, q204, q205, q206, q207, q208, q209, q210, q211, q212, q213, q214, q215, q216, q217, q218, q219, q220, q221, q222, q223, q224, q225, q226, q227, q228, q229, q230, q231, q232, q233, q234, q235, q236, q237, q238, q239, q240, q241, q242, q243, q244, q245, q246, q247, q248, q249, q250, q251, q252, q253, q254, q255, q256, q257, q258, q259, q260, q261, q262, q263, q264, q265, q266, q267, q268, q269, q270, q271, q272, q273, q274, q275, q276, q277, q278, q279, q280, q281, q282, q283, q284, q285, q286, q287, q288, q289, q290, q291, q292, q293, h4, h2, h3] at e
  rw [e]
  exact hend _ _ _ _ _ _ _ _ _ _ _ _ _ _ _ _ _ _ _ _ _ _ _ _ _ _ _ _ _ _ _ _ _ _ _ _ _ _ _ _ _ _ _ _ _ _ _ _ _ _ _ _ _ _ _ _ _ _ _ _ _ _ _ _ _ _ _ _ _ _ _ _ _ _ _ _ _ _ _ _ _ _ _ _ _ _ _ _ _ _ _ _ _ _ _ _ _ _ _ _ _ _ _ _ _ _ _ _ _ _ _ _ G w hb h1
theorem cases_ok : ∀ q ∈ casesL, checkT q.1 = q.2 ∧ countT q.1 ≤ 100000 ∧ sizeT q.1 ≤ 1000000 := by decide +kernel
theorem nm_a4 : atT exT [4] = none := by kernel_rfl
theorem nm_am : atT exT [-1] = none := by kernel_rfl
theorem nm_f00 : fullA exT [0, 0] = (0, 0, 5) := by kernel_rfl
theorem nm_o11 : ownA exT [1, 1] = (0, 0, 5) := by kernel_rfl
theorem nm_f10 : fullA exT [1, 0] = (3, 4, 0) := by kernel_rfl
theorem nm_o10 : ownA exT [1, 0] = (4, 4, 0) := by kernel_rfl
theorem nm_o : ownA exT [] = (0, 5, 0) := by kernel_rfl
theorem nm_a9 : atT exT [9] = none := by kernel_rfl
theorem nm_fm : findP exT (-1) = none := by kernel_rfl
theorem nm_f0 : findP (.mk 4 (0, []) []) 0 = none := by kernel_rfl
abbrev nmX : T := .mk 1 (4, [120]) []
theorem nm_put : putT exT [] nmX = nmX := by kernel_rfl
theorem nm_short : shortT exT ∧ shortT nmX := ⟨weight_short _ (by decide +kernel), weight_short _ (by decide +kernel)⟩
theorem nm_count : countT exT ≤ 1000000 ∧ countT nmX ≤ 1000000 := by decide +kernel
end Go.Proofs.YtingfomfibhnhaaGreatDoor
