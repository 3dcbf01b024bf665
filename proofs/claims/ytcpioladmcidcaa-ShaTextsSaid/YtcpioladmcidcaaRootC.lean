/- The reference's roots, one by one. -/
import Derived.Test.YtcpioladmcidcaaKit
import Derived.Test.YtcpioladmcidcaaSha0
namespace Go.Proofs.Ytcpioladmcidcaa
open Go.RowKit Go.Proofs

theorem rt3_173 : rootS 173 3 = 2456956037 := by decide +kernel

theorem rt3_179 : rootS 179 3 = 2730485921 := by decide +kernel

theorem rt3_181 : rootS 181 3 = 2820302411 := by decide +kernel

theorem rt3_191 : rootS 191 3 = 3259730800 := by decide +kernel

theorem rt3_193 : rootS 193 3 = 3345764771 := by decide +kernel

theorem rt3_197 : rootS 197 3 = 3516065817 := by decide +kernel

theorem rt3_199 : rootS 199 3 = 3600352804 := by decide +kernel

theorem rt3_211 : rootS 211 3 = 4094571909 := by decide +kernel

theorem rt3_223 : rootS 223 3 = 275423344 := by decide +kernel

theorem rt3_227 : rootS 227 3 = 430227734 := by decide +kernel

theorem rt3_229 : rootS 229 3 = 506948616 := by decide +kernel

theorem rt3_233 : rootS 233 3 = 659060556 := by decide +kernel

theorem rt3_239 : rootS 239 3 = 883997877 := by decide +kernel

theorem rt3_241 : rootS 241 3 = 958139571 := by decide +kernel

theorem rt3_251 : rootS 251 3 = 1322822218 := by decide +kernel

theorem rt3_257 : rootS 257 3 = 1537002063 := by decide +kernel

theorem rt3_263 : rootS 263 3 = 1747873779 := by decide +kernel

theorem rt3_269 : rootS 269 3 = 1955562222 := by decide +kernel

theorem rt3_271 : rootS 271 3 = 2024104815 := by decide +kernel

theorem rt3_277 : rootS 277 3 = 2227730452 := by decide +kernel

theorem rt3_281 : rootS 281 3 = 2361852424 := by decide +kernel

theorem rt3_283 : rootS 283 3 = 2428436474 := by decide +kernel

theorem rt3_293 : rootS 293 3 = 2756734187 := by decide +kernel

theorem rt3_307 : rootS 307 3 = 3204031479 := by decide +kernel

theorem rt3_311 : rootS 311 3 = 3329325298 := by decide +kernel

end Go.Proofs.Ytcpioladmcidcaa
