/- The run of TermNames: state 6. -/
import Derived.Test.YteoegpkfdbcklaaGreatDoorPlayCut
import Derived.Test.YteoegpkfdbcklaaGreatDoorRows
namespace Go.Proofs.YteoegpkfdbcklaaGreatDoor.termNames
open Go Go.Play
set_option linter.unusedVariables false
set_option maxRecDepth 1000000
namespace s6
def q0 : Pa := .e
def q1 : Pa := (.l .e)
def q2 : Pa := (.r .e)
def q3 : Pa := (.l (.l .e))
def q4 : Pa := (.r (.l .e))
def q5 : Pa := (.l (.r .e))
def q6 : Pa := (.r (.r .e))
def q7 : Pa := (.l (.l (.l .e)))
def q8 : Pa := (.r (.l (.l .e)))
def q9 : Pa := (.l (.r (.l .e)))
def q10 : Pa := (.r (.r (.l .e)))
def q12 : Pa := (.r (.l (.r .e)))
def q13 : Pa := (.l (.r (.r .e)))
def q15 : Pa := (.l (.l (.l (.l .e))))
def q16 : Pa := (.r (.l (.l (.l .e))))
def q17 : Pa := (.l (.r (.l (.l .e))))
def q18 : Pa := (.r (.r (.l (.l .e))))
def q19 : Pa := (.l (.l (.r (.l .e))))
def q20 : Pa := (.r (.l (.r (.l .e))))
def q21 : Pa := (.l (.r (.r (.l .e))))
def q22 : Pa := (.r (.r (.r (.l .e))))
def q23 : Pa := (.l (.l (.l (.r .e))))
def q24 : Pa := (.r (.l (.l (.r .e))))
def q25 : Pa := (.l (.r (.l (.r .e))))
def q26 : Pa := (.r (.r (.l (.r .e))))
def q27 : Pa := (.l (.l (.r (.r .e))))
def q28 : Pa := (.r (.l (.r (.r .e))))
def q30 : Pa := (.r (.r (.r (.r .e))))
def q32 : Pa := (.r (.l (.l (.l (.l .e)))))
def q34 : Pa := (.r (.r (.l (.l (.l .e)))))
def q36 : Pa := (.r (.l (.r (.l (.l .e)))))
def q38 : Pa := (.r (.r (.r (.l (.l .e)))))
def q40 : Pa := (.r (.l (.l (.r (.l .e)))))
def q42 : Pa := (.r (.r (.l (.r (.l .e)))))
def q43 : Pa := (.l (.l (.r (.r (.l .e)))))
def q44 : Pa := (.r (.l (.r (.r (.l .e)))))
def q45 : Pa := (.l (.r (.r (.r (.l .e)))))
def q46 : Pa := (.r (.r (.r (.r (.l .e)))))
def q48 : Pa := (.r (.l (.l (.l (.r .e)))))
def q49 : Pa := (.l (.r (.l (.l (.r .e)))))
def q50 : Pa := (.r (.r (.l (.l (.r .e)))))
def q56 : Pa := (.r (.l (.l (.r (.r .e)))))
def q57 : Pa := (.l (.r (.l (.r (.r .e)))))
def q58 : Pa := (.r (.r (.l (.r (.r .e)))))
def q59 : Pa := (.l (.l (.r (.r (.r .e)))))
def q60 : Pa := (.r (.l (.r (.r (.r .e)))))
def q333 : Pa := (.l (.r (.r (.r (.l (.l (.r (.l .e))))))))
def q334 : Pa := (.r (.r (.r (.r (.l (.l (.r (.l .e))))))))
def q335 : Pa := (.l (.l (.l (.l (.r (.l (.r (.l .e))))))))
def q336 : Pa := (.r (.l (.l (.l (.r (.l (.r (.l .e))))))))
def q337 : Pa := (.l (.r (.l (.l (.r (.l (.r (.l .e))))))))
def q338 : Pa := (.r (.r (.l (.l (.r (.l (.r (.l .e))))))))
def q339 : Pa := (.l (.l (.r (.l (.r (.l (.r (.l .e))))))))
def q340 : Pa := (.r (.l (.r (.l (.r (.l (.r (.l .e))))))))
def q341 : Pa := (.l (.r (.r (.l (.r (.l (.r (.l .e))))))))
def q342 : Pa := (.r (.r (.r (.l (.r (.l (.r (.l .e))))))))
def q343 : Pa := (.l (.l (.l (.r (.r (.l (.r (.l .e))))))))
def q344 : Pa := (.r (.l (.l (.r (.r (.l (.r (.l .e))))))))
def q345 : Pa := (.l (.r (.l (.r (.r (.l (.r (.l .e))))))))
def q346 : Pa := (.r (.r (.l (.r (.r (.l (.r (.l .e))))))))
def q347 : Pa := (.l (.l (.r (.r (.r (.l (.r (.l .e))))))))
def q348 : Pa := (.r (.l (.r (.r (.r (.l (.r (.l .e))))))))
def q349 : Pa := (.l (.r (.r (.r (.r (.l (.r (.l .e))))))))
def q350 : Pa := (.r (.r (.r (.r (.r (.l (.r (.l .e))))))))
def q351 : Pa := (.l (.l (.l (.l (.l (.r (.r (.l .e))))))))
def q352 : Pa := (.r (.l (.l (.l (.l (.r (.r (.l .e))))))))
def q353 : Pa := (.l (.r (.l (.l (.l (.r (.r (.l .e))))))))
def q354 : Pa := (.r (.r (.l (.l (.l (.r (.r (.l .e))))))))
def q355 : Pa := (.l (.l (.r (.l (.l (.r (.r (.l .e))))))))
def q356 : Pa := (.r (.l (.r (.l (.l (.r (.r (.l .e))))))))
def q357 : Pa := (.l (.r (.r (.l (.l (.r (.r (.l .e))))))))
def q358 : Pa := (.r (.r (.r (.l (.l (.r (.r (.l .e))))))))
def q359 : Pa := (.l (.l (.l (.r (.l (.r (.r (.l .e))))))))
def q360 : Pa := (.r (.l (.l (.r (.l (.r (.r (.l .e))))))))
def q361 : Pa := (.l (.r (.l (.r (.l (.r (.r (.l .e))))))))
def q362 : Pa := (.r (.r (.l (.r (.l (.r (.r (.l .e))))))))
def q363 : Pa := (.l (.l (.r (.r (.l (.r (.r (.l .e))))))))
def q364 : Pa := (.r (.l (.r (.r (.l (.r (.r (.l .e))))))))
def q365 : Pa := (.l (.r (.r (.r (.l (.r (.r (.l .e))))))))
def q366 : Pa := (.r (.r (.r (.r (.l (.r (.r (.l .e))))))))
def q367 : Pa := (.l (.l (.l (.l (.r (.r (.r (.l .e))))))))
def q368 : Pa := (.r (.l (.l (.l (.r (.r (.r (.l .e))))))))
def q369 : Pa := (.l (.r (.l (.l (.r (.r (.r (.l .e))))))))
def q370 : Pa := (.r (.r (.l (.l (.r (.r (.r (.l .e))))))))
def q371 : Pa := (.l (.l (.r (.l (.r (.r (.r (.l .e))))))))
def q372 : Pa := (.r (.l (.r (.l (.r (.r (.r (.l .e))))))))
def q373 : Pa := (.l (.r (.r (.l (.r (.r (.r (.l .e))))))))
def q374 : Pa := (.r (.r (.r (.l (.r (.r (.r (.l .e))))))))
def q375 : Pa := (.l (.l (.l (.r (.r (.r (.r (.l .e))))))))
def q376 : Pa := (.r (.l (.l (.r (.r (.r (.r (.l .e))))))))
def q377 : Pa := (.l (.r (.l (.r (.r (.r (.r (.l .e))))))))
def q378 : Pa := (.r (.r (.l (.r (.r (.r (.r (.l .e))))))))
def q379 : Pa := (.l (.l (.r (.r (.r (.r (.r (.l .e))))))))
def q380 : Pa := (.r (.l (.r (.r (.r (.r (.r (.l .e))))))))
def q381 : Pa := (.l (.r (.r (.r (.r (.r (.r (.l .e))))))))
def q382 : Pa := (.r (.r (.r (.r (.r (.r (.r (.l .e))))))))
def q383 : Pa := (.l (.l (.l (.l (.l (.l (.l (.r .e))))))))
def q384 : Pa := (.r (.l (.l (.l (.l (.l (.l (.r .e))))))))
def q385 : Pa := (.l (.r (.l (.l (.l (.l (.l (.r .e))))))))
def q386 : Pa := (.r (.r (.l (.l (.l (.l (.l (.r .e))))))))
def q387 : Pa := (.l (.l (.r (.l (.l (.l (.l (.r .e))))))))
def q388 : Pa := (.r (.l (.r (.l (.l (.l (.l (.r .e))))))))
def q389 : Pa := (.l (.r (.r (.l (.l (.l (.l (.r .e))))))))
def q390 : Pa := (.r (.r (.r (.l (.l (.l (.l (.r .e))))))))
def q391 : Pa := (.l (.l (.l (.r (.l (.l (.l (.r .e))))))))
def q392 : Pa := (.r (.l (.l (.r (.l (.l (.l (.r .e))))))))
def q393 : Pa := (.l (.r (.l (.r (.l (.l (.l (.r .e))))))))
def q394 : Pa := (.r (.r (.l (.r (.l (.l (.l (.r .e))))))))
def q395 : Pa := (.l (.l (.r (.r (.l (.l (.l (.r .e))))))))
def q396 : Pa := (.r (.l (.r (.r (.l (.l (.l (.r .e))))))))
def q397 : Pa := (.l (.r (.r (.r (.l (.l (.l (.r .e))))))))
def q398 : Pa := (.r (.r (.r (.r (.l (.l (.l (.r .e))))))))
def q399 : Pa := (.l (.l (.l (.l (.r (.l (.l (.r .e))))))))
def q400 : Pa := (.r (.l (.l (.l (.r (.l (.l (.r .e))))))))
def q401 : Pa := (.l (.r (.l (.l (.r (.l (.l (.r .e))))))))
def q402 : Pa := (.r (.r (.l (.l (.r (.l (.l (.r .e))))))))
def q403 : Pa := (.l (.l (.r (.l (.r (.l (.l (.r .e))))))))
def q404 : Pa := (.r (.l (.r (.l (.r (.l (.l (.r .e))))))))
def q405 : Pa := (.l (.r (.r (.l (.r (.l (.l (.r .e))))))))
def q406 : Pa := (.r (.r (.r (.l (.r (.l (.l (.r .e))))))))
def q407 : Pa := (.l (.l (.l (.r (.r (.l (.l (.r .e))))))))
def q408 : Pa := (.r (.l (.l (.r (.r (.l (.l (.r .e))))))))
def q409 : Pa := (.l (.r (.l (.r (.r (.l (.l (.r .e))))))))
def q410 : Pa := (.r (.r (.l (.r (.r (.l (.l (.r .e))))))))
def q411 : Pa := (.l (.l (.r (.r (.r (.l (.l (.r .e))))))))
def q412 : Pa := (.r (.l (.r (.r (.r (.l (.l (.r .e))))))))
def q413 : Pa := (.l (.r (.r (.r (.r (.l (.l (.r .e))))))))
def q414 : Pa := (.r (.r (.r (.r (.r (.l (.l (.r .e))))))))
def q415 : Pa := (.l (.l (.l (.l (.l (.r (.l (.r .e))))))))
def q416 : Pa := (.r (.l (.l (.l (.l (.r (.l (.r .e))))))))
def q417 : Pa := (.l (.r (.l (.l (.l (.r (.l (.r .e))))))))
def q418 : Pa := (.r (.r (.l (.l (.l (.r (.l (.r .e))))))))
def q419 : Pa := (.l (.l (.r (.l (.l (.r (.l (.r .e))))))))
def q420 : Pa := (.r (.l (.r (.l (.l (.r (.l (.r .e))))))))
def q421 : Pa := (.l (.r (.r (.l (.l (.r (.l (.r .e))))))))
def q422 : Pa := (.r (.r (.r (.l (.l (.r (.l (.r .e))))))))
def q423 : Pa := (.l (.l (.l (.r (.l (.r (.l (.r .e))))))))
def q424 : Pa := (.r (.l (.l (.r (.l (.r (.l (.r .e))))))))
def q425 : Pa := (.l (.r (.l (.r (.l (.r (.l (.r .e))))))))
def q426 : Pa := (.r (.r (.l (.r (.l (.r (.l (.r .e))))))))
def q427 : Pa := (.l (.l (.r (.r (.l (.r (.l (.r .e))))))))
def q428 : Pa := (.r (.l (.r (.r (.l (.r (.l (.r .e))))))))
def q429 : Pa := (.l (.r (.r (.r (.l (.r (.l (.r .e))))))))
def q430 : Pa := (.r (.r (.r (.r (.l (.r (.l (.r .e))))))))
def q431 : Pa := (.l (.l (.l (.l (.r (.r (.l (.r .e))))))))
def q432 : Pa := (.r (.l (.l (.l (.r (.r (.l (.r .e))))))))
def q433 : Pa := (.l (.r (.l (.l (.r (.r (.l (.r .e))))))))
def q434 : Pa := (.r (.r (.l (.l (.r (.r (.l (.r .e))))))))
def q435 : Pa := (.l (.l (.r (.l (.r (.r (.l (.r .e))))))))
def q436 : Pa := (.r (.l (.r (.l (.r (.r (.l (.r .e))))))))
def q437 : Pa := (.l (.r (.r (.l (.r (.r (.l (.r .e))))))))
def q438 : Pa := (.r (.r (.r (.l (.r (.r (.l (.r .e))))))))
def q439 : Pa := (.l (.l (.l (.r (.r (.r (.l (.r .e))))))))
def q440 : Pa := (.r (.l (.l (.r (.r (.r (.l (.r .e))))))))
def q441 : Pa := (.l (.r (.l (.r (.r (.r (.l (.r .e))))))))
def q442 : Pa := (.r (.r (.l (.r (.r (.r (.l (.r .e))))))))
def q443 : Pa := (.l (.l (.r (.r (.r (.r (.l (.r .e))))))))
def q444 : Pa := (.r (.l (.r (.r (.r (.r (.l (.r .e))))))))
def q3027 : Pa := (.l (.l (.r (.l (.r (.l (.r (.r (.r (.r (.l .e)))))))))))
def q3028 : Pa := (.r (.l (.r (.l (.r (.l (.r (.r (.r (.r (.l .e)))))))))))
def q3029 : Pa := (.l (.r (.r (.l (.r (.l (.r (.r (.r (.r (.l .e)))))))))))
def q3031 : Pa := (.l (.l (.l (.r (.r (.l (.r (.r (.r (.r (.l .e)))))))))))
def q3033 : Pa := (.l (.r (.l (.r (.r (.l (.r (.r (.r (.r (.l .e)))))))))))
def q3035 : Pa := (.l (.l (.r (.r (.r (.l (.r (.r (.r (.r (.l .e)))))))))))
def q3037 : Pa := (.l (.r (.r (.r (.r (.l (.r (.r (.r (.r (.l .e)))))))))))
def q3039 : Pa := (.l (.l (.l (.l (.l (.r (.r (.r (.r (.r (.l .e)))))))))))
def q3041 : Pa := (.l (.r (.l (.l (.l (.r (.r (.r (.r (.r (.l .e)))))))))))
def q3043 : Pa := (.l (.l (.r (.l (.l (.r (.r (.r (.r (.r (.l .e)))))))))))
def q3045 : Pa := (.l (.r (.r (.l (.l (.r (.r (.r (.r (.r (.l .e)))))))))))
def q3047 : Pa := (.l (.l (.l (.r (.l (.r (.r (.r (.r (.r (.l .e)))))))))))
def q3049 : Pa := (.l (.r (.l (.r (.l (.r (.r (.r (.r (.r (.l .e)))))))))))
def q3051 : Pa := (.l (.l (.r (.r (.l (.r (.r (.r (.r (.r (.l .e)))))))))))
def q3053 : Pa := (.l (.r (.r (.r (.l (.r (.r (.r (.r (.r (.l .e)))))))))))
def q3055 : Pa := (.l (.l (.l (.l (.r (.r (.r (.r (.r (.r (.l .e)))))))))))
def q3057 : Pa := (.l (.r (.l (.l (.r (.r (.r (.r (.r (.r (.l .e)))))))))))
def q3059 : Pa := (.l (.l (.r (.l (.r (.r (.r (.r (.r (.r (.l .e)))))))))))
def q3061 : Pa := (.l (.r (.r (.l (.r (.r (.r (.r (.r (.r (.l .e)))))))))))
def q3063 : Pa := (.l (.l (.l (.r (.r (.r (.r (.r (.r (.r (.l .e)))))))))))
def q3065 : Pa := (.l (.r (.l (.r (.r (.r (.r (.r (.r (.r (.l .e)))))))))))
def q3067 : Pa := (.l (.l (.r (.r (.r (.r (.r (.r (.r (.r (.l .e)))))))))))
def q3069 : Pa := (.l (.r (.r (.r (.r (.r (.r (.r (.r (.r (.l .e)))))))))))
def q3071 : Pa := (.l (.l (.l (.l (.l (.l (.l (.l (.l (.l (.r .e)))))))))))
def q3073 : Pa := (.l (.r (.l (.l (.l (.l (.l (.l (.l (.l (.r .e)))))))))))
def q3075 : Pa := (.l (.l (.r (.l (.l (.l (.l (.l (.l (.l (.r .e)))))))))))
def q3077 : Pa := (.l (.r (.r (.l (.l (.l (.l (.l (.l (.l (.r .e)))))))))))
def q3079 : Pa := (.l (.l (.l (.r (.l (.l (.l (.l (.l (.l (.r .e)))))))))))
def q3081 : Pa := (.l (.r (.l (.r (.l (.l (.l (.l (.l (.l (.r .e)))))))))))
def q3083 : Pa := (.l (.l (.r (.r (.l (.l (.l (.l (.l (.l (.r .e)))))))))))
def q3085 : Pa := (.l (.r (.r (.r (.l (.l (.l (.l (.l (.l (.r .e)))))))))))
def q3087 : Pa := (.l (.l (.l (.l (.r (.l (.l (.l (.l (.l (.r .e)))))))))))
def q3089 : Pa := (.l (.r (.l (.l (.r (.l (.l (.l (.l (.l (.r .e)))))))))))
def q3091 : Pa := (.l (.l (.r (.l (.r (.l (.l (.l (.l (.l (.r .e)))))))))))
def q3093 : Pa := (.l (.r (.r (.l (.r (.l (.l (.l (.l (.l (.r .e)))))))))))
def q3095 : Pa := (.l (.l (.l (.r (.r (.l (.l (.l (.l (.l (.r .e)))))))))))
def q3097 : Pa := (.l (.r (.l (.r (.r (.l (.l (.l (.l (.l (.r .e)))))))))))
def q3099 : Pa := (.l (.l (.r (.r (.r (.l (.l (.l (.l (.l (.r .e)))))))))))
def q3101 : Pa := (.l (.r (.r (.r (.r (.l (.l (.l (.l (.l (.r .e)))))))))))
def q3103 : Pa := (.l (.l (.l (.l (.l (.r (.l (.l (.l (.l (.r .e)))))))))))
def q3105 : Pa := (.l (.r (.l (.l (.l (.r (.l (.l (.l (.l (.r .e)))))))))))
def q3107 : Pa := (.l (.l (.r (.l (.l (.r (.l (.l (.l (.l (.r .e)))))))))))
def q3109 : Pa := (.l (.r (.r (.l (.l (.r (.l (.l (.l (.l (.r .e)))))))))))
def q3111 : Pa := (.l (.l (.l (.r (.l (.r (.l (.l (.l (.l (.r .e)))))))))))
def q3113 : Pa := (.l (.r (.l (.r (.l (.r (.l (.l (.l (.l (.r .e)))))))))))
def q3115 : Pa := (.l (.l (.r (.r (.l (.r (.l (.l (.l (.l (.r .e)))))))))))
def q3117 : Pa := (.l (.r (.r (.r (.l (.r (.l (.l (.l (.l (.r .e)))))))))))
def q3119 : Pa := (.l (.l (.l (.l (.r (.r (.l (.l (.l (.l (.r .e)))))))))))
def q3121 : Pa := (.l (.r (.l (.l (.r (.r (.l (.l (.l (.l (.r .e)))))))))))
def q3123 : Pa := (.l (.l (.r (.l (.r (.r (.l (.l (.l (.l (.r .e)))))))))))
def q3125 : Pa := (.l (.r (.r (.l (.r (.r (.l (.l (.l (.l (.r .e)))))))))))
def q3127 : Pa := (.l (.l (.l (.r (.r (.r (.l (.l (.l (.l (.r .e)))))))))))
def q3129 : Pa := (.l (.r (.l (.r (.r (.r (.l (.l (.l (.l (.r .e)))))))))))
def q3131 : Pa := (.l (.l (.r (.r (.r (.r (.l (.l (.l (.l (.r .e)))))))))))
def q3133 : Pa := (.l (.r (.r (.r (.r (.r (.l (.l (.l (.l (.r .e)))))))))))
def q3135 : Pa := (.l (.l (.l (.l (.l (.l (.r (.l (.l (.l (.r .e)))))))))))
def q3137 : Pa := (.l (.r (.l (.l (.l (.l (.r (.l (.l (.l (.r .e)))))))))))
def q3139 : Pa := (.l (.l (.r (.l (.l (.l (.r (.l (.l (.l (.r .e)))))))))))
def q3141 : Pa := (.l (.r (.r (.l (.l (.l (.r (.l (.l (.l (.r .e)))))))))))
def q3143 : Pa := (.l (.l (.l (.r (.l (.l (.r (.l (.l (.l (.r .e)))))))))))
def q3145 : Pa := (.l (.r (.l (.r (.l (.l (.r (.l (.l (.l (.r .e)))))))))))
def q3147 : Pa := (.l (.l (.r (.r (.l (.l (.r (.l (.l (.l (.r .e)))))))))))
def q3149 : Pa := (.l (.r (.r (.r (.l (.l (.r (.l (.l (.l (.r .e)))))))))))
def q3151 : Pa := (.l (.l (.l (.l (.r (.l (.r (.l (.l (.l (.r .e)))))))))))
def q3153 : Pa := (.l (.r (.l (.l (.r (.l (.r (.l (.l (.l (.r .e)))))))))))
def q3155 : Pa := (.l (.l (.r (.l (.r (.l (.r (.l (.l (.l (.r .e)))))))))))
def q3157 : Pa := (.l (.r (.r (.l (.r (.l (.r (.l (.l (.l (.r .e)))))))))))
def q3159 : Pa := (.l (.l (.l (.r (.r (.l (.r (.l (.l (.l (.r .e)))))))))))
def q3161 : Pa := (.l (.r (.l (.r (.r (.l (.r (.l (.l (.l (.r .e)))))))))))
def q3163 : Pa := (.l (.l (.r (.r (.r (.l (.r (.l (.l (.l (.r .e)))))))))))
def q3165 : Pa := (.l (.r (.r (.r (.r (.l (.r (.l (.l (.l (.r .e)))))))))))
def q9330 : Pa := (.r (.r (.l (.l (.r (.r (.r (.l (.l (.l (.r (.l (.l .e)))))))))))))
def q10132 : Pa := (.r (.l (.r (.l (.r (.l (.l (.r (.r (.r (.r (.l (.l .e)))))))))))))
def q10570 : Pa := (.r (.r (.l (.r (.l (.l (.r (.l (.r (.l (.l (.r (.l .e)))))))))))))
def q10571 : Pa := (.l (.l (.r (.r (.l (.l (.r (.l (.r (.l (.l (.r (.l .e)))))))))))))
def q10572 : Pa := (.r (.l (.r (.r (.l (.l (.r (.l (.r (.l (.l (.r (.l .e)))))))))))))
def q10573 : Pa := (.l (.r (.r (.r (.l (.l (.r (.l (.r (.l (.l (.r (.l .e)))))))))))))
def q10574 : Pa := (.r (.r (.r (.r (.l (.l (.r (.l (.r (.l (.l (.r (.l .e)))))))))))))
def q10575 : Pa := (.l (.l (.l (.l (.r (.l (.r (.l (.r (.l (.l (.r (.l .e)))))))))))))
def q10576 : Pa := (.r (.l (.l (.l (.r (.l (.r (.l (.r (.l (.l (.r (.l .e)))))))))))))
def q10577 : Pa := (.l (.r (.l (.l (.r (.l (.r (.l (.r (.l (.l (.r (.l .e)))))))))))))
def q10578 : Pa := (.r (.r (.l (.l (.r (.l (.r (.l (.r (.l (.l (.r (.l .e)))))))))))))
def q10579 : Pa := (.l (.l (.r (.l (.r (.l (.r (.l (.r (.l (.l (.r (.l .e)))))))))))))
def q10580 : Pa := (.r (.l (.r (.l (.r (.l (.r (.l (.r (.l (.l (.r (.l .e)))))))))))))
def q10581 : Pa := (.l (.r (.r (.l (.r (.l (.r (.l (.r (.l (.l (.r (.l .e)))))))))))))
def q10582 : Pa := (.r (.r (.r (.l (.r (.l (.r (.l (.r (.l (.l (.r (.l .e)))))))))))))
def q10583 : Pa := (.l (.l (.l (.r (.r (.l (.r (.l (.r (.l (.l (.r (.l .e)))))))))))))
def q10590 : Pa := (.r (.r (.r (.r (.r (.l (.r (.l (.r (.l (.l (.r (.l .e)))))))))))))
def q11486 : Pa := (.r (.r (.r (.r (.r (.l (.r (.r (.l (.l (.r (.r (.l .e)))))))))))))
def q11493 : Pa := (.l (.r (.r (.l (.l (.r (.r (.r (.l (.l (.r (.r (.l .e)))))))))))))
def q11717 : Pa := (.l (.r (.r (.l (.l (.l (.r (.r (.r (.l (.r (.r (.l .e)))))))))))))
def q11724 : Pa := (.r (.l (.r (.r (.l (.l (.r (.r (.r (.l (.r (.r (.l .e)))))))))))))
def q11731 : Pa := (.l (.l (.r (.l (.r (.l (.r (.r (.r (.l (.r (.r (.l .e)))))))))))))
def q11780 : Pa := (.r (.l (.r (.l (.l (.l (.l (.l (.l (.r (.r (.r (.l .e)))))))))))))
def w1 : SV := (.lit (.string ⟨#[40, 108, 111, 97, 100, 32, 49, 54, 32, 97, 58, 56, 41]⟩))
def w2 : SV := (.lit (.int .i64 (.ofNat 16)))
def w3 : SV := (.lit (.int .i64 (.ofNat 22)))
def w4 : SV := (.lit (.int .i64 (.ofNat 14)))
def w5 : SV := (.lit (.int .i64 (.ofNat 23)))
def w6 : SV := (.lit (.int .i64 (.ofNat 59)))
def w7 : SV := (.lit (.int .i64 (.ofNat 11)))
def w8 : SV := (.lit (.int .i64 (.ofNat 10)))
def w9 : SV := (.lit (.int .i64 (.ofNat 6)))
def w10 : SV := (.lit (.int .u8 (.ofNat 10)))
def w11 : SV := (.lit (.int .i64 (.ofNat 8)))
def w12 : SV := (.lit (.int .u64 (.ofNat 0)))
def w13 : SV := (.lit (.int .i64 (.ofNat 0)))
def w14 : SV := (.lit (.int .i64 (.ofNat 7)))
def w15 : SV := (.lit (.int .i64 (.ofNat 1)))
def w16 : SV := (.lit (.int .i64 (.ofNat 2)))
def w17 : SV := (.lit (.int .i64 (.ofNat 5)))
def w18 : SV := (.lit (.int .i64 (.ofNat 4)))
def w19 : SV := (.lit (.int .i64 (.ofNat 3)))
def w20 : SV := (.lit (.int .u8 (.ofNat 24)))
def w21 : SV := (.lit (.int .u8 (.ofNat 20)))
def w22 : SV := (.lit (.int .i64 (.ofNat 9)))
def w23 : SV := (.lit (.int .u64 (.ofNat 1)))
def w24 : SV := (.lit (.int .u8 (.ofNat 21)))
def w25 : SV := (.lit (.int .u8 (.ofNat 2)))
def w26 : SV := (.lit (.int .u8 (.ofNat 3)))
def w27 : SV := (.lit (.int .u8 (.ofNat 1)))
def w28 : SV := (.lit (.int .u8 (.ofNat 0)))
def w29 : SV := (.lit (.int .u8 (.ofNat 4)))
def w30 : SV := (.lit (.string ⟨#[97]⟩))
def w31 : SV := (.lit (.slice none 0 0))
def w32 : SV := (.lit (.string ⟨#[99]⟩))
def w33 : SV := (.lit (.string ⟨#[98]⟩))
def w34 : SV := (.lit (.string ⟨#[]⟩))
def w35 : SV := (.lit (.bool .false))
def w36 : SV := (.lit (.bool .true))
def w37 : SV := (.lit (.tuple #[]))
def w38 : SV := (.slc q3151 0 2 2 .true)
def w39 : SV := (.slc q3149 0 2 2 .true)
def w40 : SV := (.slc q3153 0 2 2 .true)
def w41 : SV := (.slc q3155 0 2 2 .true)
def w42 : SV := (.slc q3157 0 2 2 .true)
def w43 : SV := (.slc q3159 0 2 2 .true)
def w44 : SV := (.slc q3161 0 2 2 .true)
def w45 : SV := (.slc q3145 0 1 1 .true)
def w46 : SV := (.ptr q10583 0)
def w47 : SV := (.ptr q10582 0)
def w48 : SV := (.agg [w10, w11, w12, w34, w13, .any])
def w49 : SV := (.agg [w21, w22, w12, w34, w13, .any])
def w50 : SV := (.agg [w29, w11, w12, w34, w13, .any])
def w51 : SV := (.agg [w10, w11, w12, w34, w13, w44])
def w52 : SV := (.agg [w25, w11, w12, w30, w13, w31])
def w53 : SV := (.agg [w20, w2, w12, w34, w13, .any])
def w54 : SV := (.agg [w25, w15, w12, w32, w13, w31])
def w55 : SV := (.agg [w28, w13, w12, w34, w13, w31])
def w56 : SV := (.agg [w25, w11, w23, w30, w13, w31])
def w57 : SV := (.agg [w25, w11, w12, w33, w13, w31])
def w58 : SV := (.agg [w29, w11, w12, w34, w13, w45])
def w59 : SO := (.cells [w10, w11, w12, w34, w13, w44] 25 .true)
def w60 : SO := (.cells [w25, w11, w12, w30, w13, w31] 25 .true)
noncomputable def f (u3 : TypeId) (y3 : Value) (u4 : TypeId) (y4 : Value) : SF := (.mk (.mk 94 .normal none) (ovrT (.node w9 (.node w48 (.node .any (.node w37 (.node .any .nil .nil) (.node w14 .nil .nil)) (.node w48 (.node .any .nil .nil) (.node w15 .nil .nil))) (.node .any (.node .any (.node w15 .nil .nil) (.node w36 .nil .nil)) (.node w35 (.node .any .nil .nil) .nil))) (.node .any (.node w37 (.node .any (.node w16 .nil .nil) (.node w48 .nil .nil)) (.node w36 (.node w48 .nil .nil) .nil)) (.node w35 (.node w9 (.node w36 .nil .nil) (.node w35 .nil .nil)) (.node .any (.node w9 .nil .nil) .nil)))) [(q0, w9), (q3, w46), (q6, w35), (q8, (.ptr q11731 0)), (q15, w38), (q16, w16), (q17, w15), (q18, w36), (q19, (.ptr q3151 0)), (q20, (.agg [w10, w11, w12, w34, w13, w39])), (q21, (.fn 94 [] [w47, w46])), (q22, w9), (q23, w14), (q24, (.agg [w10, w11, w12, w34, w13, w39])), (q25, w36), (q26, w35), (q27, w15)]) [(.code (codeAt (bodyCode Go.Proofs.Tryz.f94) [1, 1, 0, 1, 0, 0, 1])), (.inLoop (codeAt (bodyCode Go.Proofs.Tryz.f94) [1, 1, 0, 1, 0, 0])), (.inBlock 0), (.code (codeAt (bodyCode Go.Proofs.Tryz.f94) [1, 1, 1]))] [] .run)
noncomputable def cs (u3 : TypeId) (y3 : Value) (u4 : TypeId) (y4 : Value) : List SF := [(.mk (.mk 94 .normal none) (ovrT (.node w17 (.node w48 (.node .any (.node w37 (.node .any .nil .nil) (.node w9 .nil .nil)) (.node w48 (.node .any .nil .nil) .nil)) (.node .any (.node .any (.node w13 .nil .nil) .nil) (.node w35 (.node .any .nil .nil) .nil))) (.node .any (.node w37 (.node .any (.node w16 .nil .nil) (.node w48 .nil .nil)) (.node w36 (.node w48 .nil .nil) .nil)) (.node w35 (.node w17 (.node w36 .nil .nil) .nil) (.node .any (.node w17 .nil .nil) .nil)))) [(q0, w17), (q3, w46), (q6, w35), (q8, (.ptr q11724 0)), (q15, w40), (q16, w16), (q17, w13), (q18, w36), (q19, (.ptr q3153 0)), (q20, (.agg [w10, w11, w12, w34, w13, w38])), (q21, (.fn 94 [] [w47, w46])), (q22, w17), (q23, w9), (q24, (.agg [w10, w11, w12, w34, w13, w38])), (q25, w37), (q26, w37), (q27, w37)]) [(.inReg (opsAt (codeAt (bodyCode Go.Proofs.Tryz.f94) [1, 1, 0, 1, 0, 0, 1, 1, 0, 0, 1, 0])) (((opsAt (codeAt (bodyCode Go.Proofs.Tryz.f94) [1, 1, 0, 1, 0, 0, 1, 1, 0, 0, 1, 0]))).toList.drop 4)), (.code (codeAt (bodyCode Go.Proofs.Tryz.f94) [1, 1, 0, 1, 0, 0, 1, 1, 0, 0, 1, 1])), (.inBlock 1), (.code (codeAt (bodyCode Go.Proofs.Tryz.f94) [1, 1, 0, 1, 0, 0, 1, 1, 1])), (.inLoop (codeAt (bodyCode Go.Proofs.Tryz.f94) [1, 1, 0, 1, 0, 0])), (.inBlock 0), (.code (codeAt (bodyCode Go.Proofs.Tryz.f94) [1, 1, 1]))] [] .run), (.mk (.mk 94 .normal none) (ovrT (.node w18 (.node w48 (.node .any (.node w37 (.node .any .nil .nil) (.node w17 .nil .nil)) (.node w48 (.node .any .nil .nil) (.node w15 .nil .nil))) (.node .any (.node .any (.node w15 .nil .nil) (.node w36 .nil .nil)) (.node w35 (.node .any .nil .nil) .nil))) (.node .any (.node w37 (.node .any (.node w16 .nil .nil) (.node w48 .nil .nil)) (.node w36 (.node w48 .nil .nil) .nil)) (.node w35 (.node w18 (.node w36 .nil .nil) (.node w35 .nil .nil)) (.node .any (.node w18 .nil .nil) .nil)))) [(q0, w18), (q3, w46), (q6, w35), (q8, (.ptr q11717 0)), (q15, w41), (q16, w16), (q17, w15), (q18, w36), (q19, (.ptr q3155 6)), (q20, (.agg [w10, w11, w12, w34, w13, w40])), (q21, (.fn 94 [] [w47, w46])), (q22, w18), (q23, w17), (q24, (.agg [w10, w11, w12, w34, w13, w40])), (q25, w36), (q26, w35), (q27, w15)]) [(.inReg (opsAt (codeAt (bodyCode Go.Proofs.Tryz.f94) [1, 1, 0, 1, 0, 0, 1, 1, 0, 0, 1, 0])) (((opsAt (codeAt (bodyCode Go.Proofs.Tryz.f94) [1, 1, 0, 1, 0, 0, 1, 1, 0, 0, 1, 0]))).toList.drop 4)), (.code (codeAt (bodyCode Go.Proofs.Tryz.f94) [1, 1, 0, 1, 0, 0, 1, 1, 0, 0, 1, 1])), (.inBlock 1), (.code (codeAt (bodyCode Go.Proofs.Tryz.f94) [1, 1, 0, 1, 0, 0, 1, 1, 1])), (.inLoop (codeAt (bodyCode Go.Proofs.Tryz.f94) [1, 1, 0, 1, 0, 0])), (.inBlock 0), (.code (codeAt (bodyCode Go.Proofs.Tryz.f94) [1, 1, 1]))] [] .run), (.mk (.mk 94 .normal none) (ovrT (.node w19 (.node w48 (.node .any (.node w37 (.node .any .nil .nil) (.node w18 .nil .nil)) (.node w48 (.node .any .nil .nil) .nil)) (.node .any (.node .any (.node w13 .nil .nil) .nil) (.node w35 (.node .any .nil .nil) .nil))) (.node .any (.node w37 (.node .any (.node w16 .nil .nil) (.node w48 .nil .nil)) (.node w36 (.node w48 .nil .nil) .nil)) (.node w35 (.node w19 (.node w36 .nil .nil) .nil) (.node .any (.node w19 .nil .nil) .nil)))) [(q0, w19), (q3, w46), (q6, w35), (q8, (.ptr q11493 0)), (q15, w42), (q16, w16), (q17, w13), (q18, w36), (q19, (.ptr q3157 0)), (q20, (.agg [w10, w11, w12, w34, w13, w41])), (q21, (.fn 94 [] [w47, w46])), (q22, w19), (q23, w18), (q24, (.agg [w10, w11, w12, w34, w13, w41])), (q25, w37), (q26, w37), (q27, w37)]) [(.inReg (opsAt (codeAt (bodyCode Go.Proofs.Tryz.f94) [1, 1, 0, 1, 0, 0, 1, 1, 0, 0, 1, 0])) (((opsAt (codeAt (bodyCode Go.Proofs.Tryz.f94) [1, 1, 0, 1, 0, 0, 1, 1, 0, 0, 1, 0]))).toList.drop 4)), (.code (codeAt (bodyCode Go.Proofs.Tryz.f94) [1, 1, 0, 1, 0, 0, 1, 1, 0, 0, 1, 1])), (.inBlock 1), (.code (codeAt (bodyCode Go.Proofs.Tryz.f94) [1, 1, 0, 1, 0, 0, 1, 1, 1])), (.inLoop (codeAt (bodyCode Go.Proofs.Tryz.f94) [1, 1, 0, 1, 0, 0])), (.inBlock 0), (.code (codeAt (bodyCode Go.Proofs.Tryz.f94) [1, 1, 1]))] [] .run), (.mk (.mk 94 .normal none) (ovrT (.node w16 (.node w48 (.node .any (.node w37 (.node .any .nil .nil) (.node w19 .nil .nil)) (.node w48 (.node .any .nil .nil) (.node w15 .nil .nil))) (.node .any (.node .any (.node w15 .nil .nil) (.node w36 .nil .nil)) (.node w35 (.node .any .nil .nil) .nil))) (.node .any (.node w37 (.node .any (.node w16 .nil .nil) (.node w48 .nil .nil)) (.node w36 (.node w48 .nil .nil) .nil)) (.node w35 (.node w16 (.node w36 .nil .nil) (.node w35 .nil .nil)) (.node .any (.node w16 .nil .nil) .nil)))) [(q0, w16), (q3, w46), (q6, w35), (q8, (.ptr q11486 0)), (q15, w43), (q16, w16), (q17, w15), (q18, w36), (q19, (.ptr q3159 6)), (q20, (.agg [w10, w11, w12, w34, w13, w42])), (q21, (.fn 94 [] [w47, w46])), (q22, w16), (q23, w19), (q24, (.agg [w10, w11, w12, w34, w13, w42])), (q25, w36), (q26, w35), (q27, w15)]) [(.inReg (opsAt (codeAt (bodyCode Go.Proofs.Tryz.f94) [1, 1, 0, 1, 0, 0, 1, 1, 0, 0, 1, 0])) (((opsAt (codeAt (bodyCode Go.Proofs.Tryz.f94) [1, 1, 0, 1, 0, 0, 1, 1, 0, 0, 1, 0]))).toList.drop 4)), (.code (codeAt (bodyCode Go.Proofs.Tryz.f94) [1, 1, 0, 1, 0, 0, 1, 1, 0, 0, 1, 1])), (.inBlock 1), (.code (codeAt (bodyCode Go.Proofs.Tryz.f94) [1, 1, 0, 1, 0, 0, 1, 1, 1])), (.inLoop (codeAt (bodyCode Go.Proofs.Tryz.f94) [1, 1, 0, 1, 0, 0])), (.inBlock 0), (.code (codeAt (bodyCode Go.Proofs.Tryz.f94) [1, 1, 1]))] [] .run), (.mk (.mk 94 .normal none) (ovrT (.node w15 (.node w48 (.node .any (.node w37 (.node .any .nil .nil) (.node w16 .nil .nil)) (.node w48 (.node .any .nil .nil) .nil)) (.node .any (.node .any (.node w13 .nil .nil) .nil) (.node w35 (.node .any .nil .nil) .nil))) (.node .any (.node w37 (.node .any (.node w16 .nil .nil) (.node w48 .nil .nil)) (.node w36 (.node w48 .nil .nil) .nil)) (.node w35 (.node w15 (.node w36 .nil .nil) .nil) (.node .any (.node w15 .nil .nil) .nil)))) [(q0, w15), (q3, w46), (q6, w35), (q8, (.ptr q10590 0)), (q15, w44), (q16, w16), (q17, w13), (q18, w36), (q19, (.ptr q3161 0)), (q20, (.agg [w10, w11, w12, w34, w13, w43])), (q21, (.fn 94 [] [w47, w46])), (q22, w15), (q23, w16), (q24, (.agg [w10, w11, w12, w34, w13, w43])), (q25, w37), (q26, w37), (q27, w37)]) [(.inReg (opsAt (codeAt (bodyCode Go.Proofs.Tryz.f94) [1, 1, 0, 1, 0, 0, 1, 1, 0, 0, 1, 0])) (((opsAt (codeAt (bodyCode Go.Proofs.Tryz.f94) [1, 1, 0, 1, 0, 0, 1, 1, 0, 0, 1, 0]))).toList.drop 4)), (.code (codeAt (bodyCode Go.Proofs.Tryz.f94) [1, 1, 0, 1, 0, 0, 1, 1, 0, 0, 1, 1])), (.inBlock 1), (.code (codeAt (bodyCode Go.Proofs.Tryz.f94) [1, 1, 0, 1, 0, 0, 1, 1, 1])), (.inLoop (codeAt (bodyCode Go.Proofs.Tryz.f94) [1, 1, 0, 1, 0, 0])), (.inBlock 0), (.code (codeAt (bodyCode Go.Proofs.Tryz.f94) [1, 1, 1]))] [] .run), (.mk (.mk 93 .normal none) (ovrT (.node .any (.node .any (.node .any .nil .nil) (.node .any .nil .nil)) (.node .any (.node .any .nil .nil) (.node w48 .nil .nil))) [(q1, (.ptr q10579 0)), (q3, w46), (q5, (.fn 94 [] [w47, w46])), (q6, w51), (q7, w37)]) [(.inReg (opsAt (codeAt (bodyCode Go.Proofs.Tryz.f93) [1, 1, 1])) (((opsAt (codeAt (bodyCode Go.Proofs.Tryz.f93) [1, 1, 1]))).toList.drop 2))] [] .run), (.mk (.mk 47 .normal none) (ovrT (.node w48 (.node .any (.node .any (.node .any .nil .nil) .nil) (.node .any .nil (.node w48 .nil .nil))) (.node .any (.node .any .nil (.node .any .nil .nil)) (.node .any .nil (.node .any .nil .nil)))) [(q2, (.ptr q10572 0)), (q3, (.ptr q10573 0)), (q5, (.ptr q10576 0)), (q6, (.ptr q10577 0)), (q7, (.ptr q10578 0)), (q56, w37), (q57, w37), (q58, w37), (q59, w37), (q60, w37)]) [(.inRF q10581), (.inBlock 0), (.code (codeAt (bodyCode Go.Proofs.Tryz.f47) [1, 1, 1]))] [(.collected q10580)] .run), (.mk (.mk 15 .normal none) (ovrT (.node w48 (.node .any .nil .nil) (.node w13 .nil (.node w48 .nil .nil))) [(q1, (.ptr q10570 0)), (q2, w13), (q3, w37), (q4, w37), (q5, w37), (q6, w51), (q7, w37), (q8, w37), (q9, w37), (q10, w37)]) [(.inReg (opsAt (codeAt (bodyCode Go.Proofs.Tryz.f15) [1, 0])) (((opsAt (codeAt (bodyCode Go.Proofs.Tryz.f15) [1, 0]))).toList.drop 1)), (.code (codeAt (bodyCode Go.Proofs.Tryz.f15) [1, 1]))] [] .run), (.mk (.mk 3 .normal none) (ovrT (.node w35 (.node .any (.node .any (.node w13 (.node w11 (.node w12 (.node w52 (.node w53 (.node (.agg [w30, w14, w12]) .nil .nil) (.node w37 .nil .nil)) (.node (.agg [w20, (.lit (.int .i64 (.ofNat 24))), w12, w34, w13, .any]) (.node w52 .nil .nil) .nil)) (.node (.tup [w1, w13]) (.node (.agg [w26, w11, w12, w34, w13, .any]) (.node (.tup [w12, w11]) .nil .nil) (.node w37 .nil .nil)) (.node w52 (.node w37 .nil .nil) .nil))) (.node w37 (.node w52 (.node w35 (.node .any .nil .nil) (.node w37 .nil .nil)) (.node w3 (.node w36 .nil .nil) .nil)) (.node w53 (.node (.agg [(.lit (.int .u8 (.ofNat 19))), w11, w12, w34, w13, .any]) (.node w54 .nil .nil) (.node w37 .nil .nil)) (.node w52 (.node w37 .nil .nil) .nil)))) (.node w12 (.node .any (.node (.agg [(.lit (.int .u8 (.ofNat 19))), w11, w12, w34, w13, .any]) (.node w53 (.node .any .nil .nil) (.node w37 .nil .nil)) (.node .any (.node (.tup [w52, w13]) .nil .nil) .nil)) (.node (.tup [w53, w13]) (.node w52 (.node (.agg [(.lit (.int .u64 (.ofNat 2))), w27]) .nil .nil) (.node w37 .nil .nil)) (.node w11 (.node w37 .nil .nil) .nil))) (.node (.agg [w25, (.lit (.int .i64 (.ofNat 32))), w12, (.lit (.string ⟨#[114, 46, 115, 112]⟩)), w13, w31]) (.node w53 (.node (.agg [w25, w11, w12, (.lit (.string ⟨#[120, 46, 121]⟩)), w13, w31]) (.node (.tup [w12, w11]) .nil .nil) (.node w37 .nil .nil)) (.node w35 (.node .any .nil .nil) .nil)) (.node w13 (.node w52 (.node w49 .nil .nil) (.node w37 .nil .nil)) (.node w4 (.node w37 .nil .nil) .nil))))) (.node w5 (.node w12 (.node w12 (.node w54 (.node w35 (.node w4 .nil .nil) (.node w37 .nil .nil)) (.node w52 (.node w48 .nil .nil) .nil)) (.node w53 (.node w52 (.node (.tup [w12, w4]) .nil .nil) (.node w37 .nil .nil)) (.node w6 (.node w37 .nil .nil) .nil))) (.node w52 (.node .any (.node (.agg [w27, (.lit (.int .i64 (.ofNat 65))), w12, w34, w13, w31]) (.node (.tup [w12, w11]) .nil .nil) (.node w37 .nil .nil)) (.node .any (.node w36 .nil .nil) .nil)) (.node w13 (.node (.agg [w21, (.lit (.int .i64 (.ofNat 15))), w12, w34, w13, .any]) (.node (.tup [w55, w4]) .nil .nil) (.node w37 .nil .nil)) (.node (.tup [w31, w4]) (.node w37 .nil .nil) .nil)))) (.node w12 (.node .any (.node (.agg [w21, w2, w12, w34, w13, .any]) (.node .any (.node (.tup [w12, w11]) .nil .nil) (.node w37 .nil .nil)) (.node w5 (.node w52 .nil .nil) .nil)) (.node w13 (.node w52 (.node w12 .nil .nil) (.node w37 .nil .nil)) (.node w48 (.node w37 .nil .nil) .nil))) (.node w52 (.node w7 (.node (.agg [w26, w14, w12, w34, w13, .any]) (.node (.tup [w12, w4]) .nil .nil) (.node w37 .nil .nil)) (.node w56 (.node w36 .nil .nil) .nil)) (.node w53 (.node .any (.node (.tup [w55, w4]) .nil .nil) (.node w37 .nil .nil)) (.node w12 (.node w37 .nil .nil) .nil)))))) (.node w7 (.node w13 (.node w31 (.node w12 (.node .any (.node w35 (.node (.tup [w12, w4]) .nil .nil) (.node w37 .nil .nil)) (.node .any (.node .any .nil .nil) .nil)) (.node w8 (.node .any (.node w11 .nil .nil) (.node w37 .nil .nil)) (.node w35 (.node w37 .nil .nil) .nil))) (.node w37 (.node (.agg [(.lit (.int .u8 (.ofNat 23))), (.lit (.int .i64 (.ofNat 64))), w12, w34, w13, .any]) (.node w55 (.node w12 .nil .nil) (.node w37 .nil .nil)) (.node .any (.node w50 .nil .nil) .nil)) (.node w35 (.node w57 (.node w55 .nil .nil) (.node w37 .nil .nil)) (.node .any (.node w37 .nil .nil) .nil)))) (.node w12 (.node .any (.node w57 (.node .any (.node w12 .nil .nil) (.node w37 .nil .nil)) (.node w56 (.node w54 .nil .nil) .nil)) (.node (.tup [w53, w13]) (.node .any (.node .any .nil .nil) (.node w37 .nil .nil)) (.node w14 (.node w37 .nil .nil) .nil))) (.node .any (.node w7 (.node w52 (.node w11 .nil .nil) (.node w37 .nil .nil)) (.node w3 (.node w18 .nil .nil) .nil)) (.node w35 (.node (.agg [w24, w18, w12, w34, (.lit (.int .i64 (.negSucc 0))), .any]) (.node .any .nil .nil) (.node w37 .nil .nil)) (.node w52 (.node w37 .nil .nil) .nil))))) (.node .any (.node w12 (.node .any (.node w57 (.node w8 (.node w52 .nil .nil) (.node w37 .nil .nil)) (.node (.agg [w26, w11, w12, w34, w15, .any]) (.node w55 .nil .nil) .nil)) (.node w1 (.node .any (.node w4 .nil .nil) (.node w37 .nil .nil)) (.node .any (.node w37 .nil .nil) .nil))) (.node w54 (.node w52 (.node (.agg [w25, w11, w12, w34, w13, w31]) (.node (.agg [w23, w28]) .nil .nil) (.node w37 .nil .nil)) (.node w11 (.node w36 .nil .nil) .nil)) (.node w35 (.node .any (.node w54 .nil .nil) (.node w37 .nil .nil)) (.node (.tup [w31, w4]) (.node w37 .nil .nil) .nil)))) (.node w12 (.node w37 (.node .any (.node w20 (.node (.agg [w30, w11, w12]) .nil .nil) (.node w37 .nil .nil)) (.node w5 (.node w50 .nil .nil) .nil)) (.node w8 (.node w57 (.node (.tup [w55, w4]) .nil .nil) (.node w37 .nil .nil)) (.node .any (.node w37 .nil .nil) .nil))) (.node .any (.node w8 (.node w57 (.node w4 .nil .nil) (.node w37 .nil .nil)) (.node w35 (.node w48 .nil .nil) .nil)) (.node w8 (.node w52 (.node w4 .nil .nil) .nil) (.node (.tup [w12, w4]) (.node w37 .nil .nil) .nil))))))) (.node .any (.node .any (.node .any (.node .any (.node w11 (.node w57 (.node w36 (.node .any .nil .nil) (.node w37 .nil .nil)) (.node w52 (.node w52 .nil .nil) .nil)) (.node .any (.node w52 (.node w12 .nil .nil) (.node w37 .nil .nil)) (.node w6 (.node w37 .nil .nil) .nil))) (.node w37 (.node .any (.node w35 (.node (.tup [w12, w11]) .nil .nil) (.node w37 .nil .nil)) (.node w5 (.node w36 .nil .nil) .nil)) (.node w13 (.node w52 (.node (.tup [w55, w4]) .nil .nil) (.node w37 .nil .nil)) (.node (.agg [w25, w15, w12, w30, w13, w31]) (.node w37 .nil .nil) .nil)))) (.node w11 (.node w4 (.node w52 (.node w35 (.node (.tup [w12, w11]) .nil .nil) (.node w37 .nil .nil)) (.node (.agg [w26, w11, w12, w30, w13, .any]) (.node w52 .nil .nil) .nil)) (.node w1 (.node w54 (.node (.agg [(.lit (.int .u64 (.ofNat 2))), w27]) .nil .nil) (.node w37 .nil .nil)) (.node w35 (.node w37 .nil .nil) .nil))) (.node w52 (.node .any (.node (.agg [w25, w13, w12, w30, w13, w31]) (.node w12 .nil .nil) (.node w37 .nil .nil)) (.node .any (.node w50 .nil .nil) .nil)) (.node w35 (.node .any (.node (.agg [w25, w16, w12, w32, w13, w31]) .nil .nil) (.node w37 .nil .nil)) (.node (.tup [w12, w2]) (.node w37 .nil .nil) .nil))))) (.node .any (.node w2 (.node w11 (.node w52 (.node .any (.node (.tup [w12, w11]) .nil .nil) (.node w37 .nil .nil)) (.node .any (.node (.tup [w55, w18]) .nil .nil) .nil)) (.node (.tup [w1, w13]) (.node w57 (.node w12 .nil .nil) (.node w37 .nil .nil)) (.node w50 (.node w37 .nil .nil) .nil))) (.node w57 (.node (.agg [(.lit (.int .u8 (.ofNat 22))), w11, w12, w34, w13, .any]) (.node (.agg [w27, w11, (.lit (.int .u64 (.ofNat 256))), w34, w13, w31]) (.node w52 .nil .nil) (.node w37 .nil .nil)) (.node w56 (.node w36 .nil .nil) .nil)) (.node w35 (.node w52 (.node w52 .nil .nil) (.node w37 .nil .nil)) (.node w49 (.node w37 .nil .nil) .nil)))) (.node w11 (.node w13 (.node w52 (.node .any (.node w52 .nil .nil) (.node w37 .nil .nil)) (.node .any (.node w13 .nil .nil) .nil)) (.node .any (.node w52 (.node w11 .nil .nil) (.node w37 .nil .nil)) (.node w48 (.node w37 .nil .nil) .nil))) (.node w57 (.node w35 (.node w52 (.node w12 .nil .nil) (.node w37 .nil .nil)) (.node w35 (.node w36 .nil .nil) .nil)) (.node .any (.node (.agg [(.lit (.int .u8 (.ofNat 22))), w14, w12, w34, w13, .any]) (.node w55 .nil .nil) (.node w37 .nil .nil)) (.node w2 (.node w37 .nil .nil) .nil)))))) (.node w1 (.node .any (.node w4 (.node w4 (.node (.agg [(.lit (.int .u8 (.ofNat 18))), w15, w12, w34, w13, .any]) (.node w35 (.node w12 .nil .nil) (.node w37 .nil .nil)) (.node (.agg [(.lit (.int .u8 (.ofNat 25))), w11, w12, w34, w13, .any]) (.node (.agg [(.lit (.int .u8 (.ofNat 5))), w11, w12, w34, w13, .any]) .nil .nil) .nil)) (.node .any (.node (.agg [(.lit (.int .u8 (.ofNat 5))), w11, w12, w34, w13, .any]) (.node (.tup [w12, w4]) .nil .nil) (.node w37 .nil .nil)) (.node (.lit (.int .i64 (.ofNat 58))) (.node w37 .nil .nil) .nil))) (.node w37 (.node w52 (.node (.agg [w27, w13, w12, w34, w13, w31]) (.node w11 .nil .nil) (.node w37 .nil .nil)) (.node w3 (.node (.lit (.int .i64 (.ofNat 60))) .nil .nil) .nil)) (.node w35 (.node .any (.node w4 .nil .nil) (.node w37 .nil .nil)) (.node w49 (.node w37 .nil .nil) .nil)))) (.node w11 (.node w18 (.node .any (.node w8 (.node w11 .nil .nil) (.node w37 .nil .nil)) (.node .any (.node (.tup [w52, w13]) .nil .nil) .nil)) (.node w53 (.node (.agg [(.lit (.int .u8 (.ofNat 17))), w15, w12, w34, w13, .any]) (.node (.tup [w12, w11]) .nil .nil) (.node w37 .nil .nil)) (.node w11 (.node w37 .nil .nil) .nil))) (.node (.agg [w26, w11, w12, w34, w13, .any]) (.node .any (.node .any (.node (.tup [w12, w4]) .nil .nil) (.node w37 .nil .nil)) (.node .any (.node w36 .nil .nil) .nil)) (.node w35 (.node w52 (.node (.agg [(.lit (.int .u8 (.ofNat 23))), w11, w12, w34, w13, .any]) .nil .nil) (.node w37 .nil .nil)) (.node (.tup [w12, w2]) (.node w37 .nil .nil) .nil))))) (.node w6 (.node w4 (.node w4 (.node .any (.node .any (.node (.agg [w30, w14, (.lit (.int .u64 (.ofNat 128)))]) .nil .nil) (.node w37 .nil .nil)) (.node w52 (.node w18 .nil .nil) .nil)) (.node w13 (.node (.agg [(.lit (.int .u8 (.ofNat 16))), w11, w12, w34, w13, .any]) (.node (.tup [w12, w11]) .nil .nil) (.node w37 .nil .nil)) (.node w50 (.node w37 .nil .nil) .nil))) (.node (.agg [w27, (.lit (.int .i64 (.ofNat 64))), (.lit (.int .u64 (.ofNat 18446744073709551615))), w34, w13, w31]) (.node .any (.node (.agg [w25, w11, w12, (.lit (.string ⟨#[114, 46]⟩)), w13, w31]) (.node .any .nil .nil) (.node w37 .nil .nil)) (.node w35 (.node w50 .nil .nil) .nil)) (.node w35 (.node (.agg [w24, w18, w12, w34, w17, .any]) (.node .any .nil .nil) (.node w37 .nil .nil)) (.node w31 (.node w37 .nil .nil) .nil)))) (.node w4 (.node w37 (.node (.agg [w24, w19, w12, w34, w17, .any]) (.node w35 (.node (.agg [w30, w11, w12]) .nil .nil) (.node w37 .nil .nil)) (.node w35 (.node w13 .nil .nil) .nil)) (.node .any (.node .any (.node w52 .nil .nil) (.node w37 .nil .nil)) (.node w48 (.node w37 .nil .nil) .nil))) (.node (.agg [(.lit (.int .u8 (.ofNat 13))), w11, w12, w34, w13, .any]) (.node w7 (.node .any (.node (.tup [w12, w11]) .nil .nil) (.node w37 .nil .nil)) (.node w52 (.node w37 .nil .nil) .nil)) (.node .any (.node .any (.node (.tup [w55, w18]) .nil .nil) .nil) (.node w52 (.node w37 .nil .nil) .nil)))))))) [(q0, w35), (q1, (.ptr q3 0)), (q12, (.ptr q3027 0)), (q13, (.ptr q3028 0)), (q16, (.ptr q3163 0)), (q18, w4), (q20, w2), (q22, w4), (q24, w11), (q26, w11), (q28, w11), (q30, w4), (q32, w11), (q34, w4), (q36, w11), (q38, w4), (q40, w4), (q42, w18), (q43, (.ptr q9330 0)), (q44, w13), (q45, w37), (q46, w37), (q48, w37), (q49, w37), (q50, w37), (q333, w58), (q334, w13), (q335, w36), (q336, w36), (q337, w58), (q338, (.lit (.int .i64 (.ofNat 60)))), (q339, w36), (q340, w36), (q341, w36), (q342, w58), (q343, (.slc q10132 0 1 1 .true)), (q344, (.agg [w29, w11, w12, w34, w13, (.slc q10132 0 1 1 .true)])), (q345, w18), (q346, w36), (q347, w36), (q348, w36), (q349, w51), (q350, w37), (q351, w37), (q352, w37), (q353, w37), (q354, w37), (q355, w37), (q356, w37), (q357, w37), (q358, w37), (q359, w37), (q360, w37), (q361, w37), (q362, w37), (q363, w37), (q364, w37), (q365, w37), (q366, w37), (q367, w37), (q368, w37), (q369, w37), (q370, w37), (q371, w37), (q372, w37), (q373, w37), (q374, w37), (q375, w37), (q376, w37), (q377, w37), (q378, w37), (q379, w37), (q380, w37), (q381, w37), (q382, w37), (q383, w37), (q384, w37), (q385, w37), (q386, w37), (q387, w37), (q388, w37), (q389, w37), (q390, w37), (q391, w37), (q392, w37), (q393, w37), (q394, w37), (q395, w37), (q396, w37), (q397, w37), (q398, w37), (q399, w37), (q400, w37), (q401, w37), (q402, w37), (q403, w37), (q404, w37), (q405, w37), (q406, w37), (q407, w37), (q408, w37), (q409, w37), (q410, w37), (q411, w37), (q412, w37), (q413, w37), (q414, w37), (q415, w37), (q416, w37), (q417, w37), (q418, w37), (q419, w37), (q420, w37), (q421, w37), (q422, w37), (q423, w37), (q424, w37), (q425, w37), (q426, w37), (q427, w37), (q428, w37), (q429, w37), (q430, w37), (q431, w37), (q432, w37), (q433, w37), (q434, w37), (q435, w37), (q436, w37), (q437, w37), (q438, w37), (q439, w37), (q440, w37), (q441, w37), (q442, w37), (q443, w37), (q444, w37)]) [(.inReg (opsAt (codeAt (bodyCode Go.Proofs.Tryz.f3) [1, 1, 1, 1, 1, 1, 1, 1, 1, 1, 1, 1, 1, 1, 1, 1, 1, 1, 1, 1, 1, 1, 1, 1, 0])) (((opsAt (codeAt (bodyCode Go.Proofs.Tryz.f3) [1, 1, 1, 1, 1, 1, 1, 1, 1, 1, 1, 1, 1, 1, 1, 1, 1, 1, 1, 1, 1, 1, 1, 1, 0]))).toList.drop 17)), (.code (codeAt (bodyCode Go.Proofs.Tryz.f3) [1, 1, 1, 1, 1, 1, 1, 1, 1, 1, 1, 1, 1, 1, 1, 1, 1, 1, 1, 1, 1, 1, 1, 1, 1]))] [] .run)]
noncomputable def h (u3 : TypeId) (y3 : Value) (u4 : TypeId) (y4 : Value) : H := (mkHeap q11780 [(q11731, (.cells [w10, w11, w12, w34, w13, w39] 25 .true)),
  (q11724, (.cells [w10, w11, w12, w34, w13, w38] 25 .true)),
  (q11717, (.cells [w10, w11, w12, w34, w13, w40] 25 .true)),
  (q11493, (.cells [w10, w11, w12, w34, w13, w41] 25 .true)),
  (q11486, (.cells [w10, w11, w12, w34, w13, w42] 25 .true)),
  (q10590, (.cells [w10, w11, w12, w34, w13, w43] 25 .true)),
  (q10582, (.cells [(.yld q10581)] 143 .true)),
  (q10583, (.cells [(.fn 94 [] [w47, w46])] 143 .true)),
  (q10571, w59),
  (q10573, (.cells [w13] 29 .true)),
  (q10578, (.cells [(.mapv q10574)] 88 .true)),
  (q10576, (.cells [w35] 4 .true)),
  (q10572, (.cells [(.lit (.map none))] 88 .true)),
  (q10575, (.cells [(.lit (.int .i64 (.ofNat 171)))] 3 .true)),
  (q10574, (.mapo [(w30, (w11, 0))] 1 .true)),
  (q10577, (.cells [w35] 4 .true)),
  (q10579, w59),
  (q10581, (.loop .ready none 47 (.node w51 (.node (.ptr q10571 0) (.node (.ptr q10573 0) (.node (.ptr q10578 0) .nil .nil) .nil) (.node (.ptr q10576 0) .nil (.node w51 .nil .nil))) (.node (.ptr q10572 0) (.node (.ptr q10575 0) .nil (.node (.mapv q10574) .nil .nil)) (.node (.ptr q10577 0) .nil (.node (.fn 93 [] [(.ptr q10579 0)]) .nil .nil)))) #[15, 16] (codeAt (bodyCode Go.Proofs.Tryz.f47) [1, 1, 0, 1, 0, 0]) (codeAt (bodyCode Go.Proofs.Tryz.f47) [1, 1, 0, 1, 0, 1]) q10580)),
  (q10580, (.deferred (some []))),
  (q10570, w59),
  (q3, w60),
  (q3027, (.cells [w29, w11, w12, w34, w13, w45] 25 .true)),
  (q3028, w59),
  (q3165, (.cells [w25, w11, w12, w30, w13, w31, w25, w15, w12, w30, w13, w31] 25 .true)),
  (q3163, (.cells [w21, w22, w12, w34, w13, (.slc q3165 0 2 2 .true)] 25 .true)),
  (q9330, w60),
  (q3029, w60),
  (q3031, (.cells [w29, w11, w12, w34, w13, (.slc q3029 0 1 1 .true)] 25 .true)),
  (q3033, (.cells [w29, w11, w12, w34, w13, (.slc q3031 0 1 1 .true)] 25 .true)),
  (q3035, (.cells [w29, w11, w12, w34, w13, (.slc q3033 0 1 1 .true)] 25 .true)),
  (q3037, (.cells [w29, w11, w12, w34, w13, (.slc q3035 0 1 1 .true)] 25 .true)),
  (q3039, (.cells [w29, w11, w12, w34, w13, (.slc q3037 0 1 1 .true)] 25 .true)),
  (q3041, (.cells [w29, w11, w12, w34, w13, (.slc q3039 0 1 1 .true)] 25 .true)),
  (q3043, (.cells [w29, w11, w12, w34, w13, (.slc q3041 0 1 1 .true)] 25 .true)),
  (q3045, (.cells [w29, w11, w12, w34, w13, (.slc q3043 0 1 1 .true)] 25 .true)),
  (q3047, (.cells [w29, w11, w12, w34, w13, (.slc q3045 0 1 1 .true)] 25 .true)),
  (q3049, (.cells [w29, w11, w12, w34, w13, (.slc q3047 0 1 1 .true)] 25 .true)),
  (q3051, (.cells [w29, w11, w12, w34, w13, (.slc q3049 0 1 1 .true)] 25 .true)),
  (q3053, (.cells [w29, w11, w12, w34, w13, (.slc q3051 0 1 1 .true)] 25 .true)),
  (q3055, (.cells [w29, w11, w12, w34, w13, (.slc q3053 0 1 1 .true)] 25 .true)),
  (q3057, (.cells [w29, w11, w12, w34, w13, (.slc q3055 0 1 1 .true)] 25 .true)),
  (q3059, (.cells [w29, w11, w12, w34, w13, (.slc q3057 0 1 1 .true)] 25 .true)),
  (q3061, (.cells [w29, w11, w12, w34, w13, (.slc q3059 0 1 1 .true)] 25 .true)),
  (q3063, (.cells [w29, w11, w12, w34, w13, (.slc q3061 0 1 1 .true)] 25 .true)),
  (q3065, (.cells [w29, w11, w12, w34, w13, (.slc q3063 0 1 1 .true)] 25 .true)),
  (q3067, (.cells [w29, w11, w12, w34, w13, (.slc q3065 0 1 1 .true)] 25 .true)),
  (q3069, (.cells [w29, w11, w12, w34, w13, (.slc q3067 0 1 1 .true)] 25 .true)),
  (q3071, (.cells [w29, w11, w12, w34, w13, (.slc q3069 0 1 1 .true)] 25 .true)),
  (q3073, (.cells [w29, w11, w12, w34, w13, (.slc q3071 0 1 1 .true)] 25 .true)),
  (q3075, (.cells [w29, w11, w12, w34, w13, (.slc q3073 0 1 1 .true)] 25 .true)),
  (q3077, (.cells [w29, w11, w12, w34, w13, (.slc q3075 0 1 1 .true)] 25 .true)),
  (q3079, (.cells [w29, w11, w12, w34, w13, (.slc q3077 0 1 1 .true)] 25 .true)),
  (q3081, (.cells [w29, w11, w12, w34, w13, (.slc q3079 0 1 1 .true)] 25 .true)),
  (q3083, (.cells [w29, w11, w12, w34, w13, (.slc q3081 0 1 1 .true)] 25 .true)),
  (q3085, (.cells [w29, w11, w12, w34, w13, (.slc q3083 0 1 1 .true)] 25 .true)),
  (q3087, (.cells [w29, w11, w12, w34, w13, (.slc q3085 0 1 1 .true)] 25 .true)),
  (q3089, (.cells [w29, w11, w12, w34, w13, (.slc q3087 0 1 1 .true)] 25 .true)),
  (q3091, (.cells [w29, w11, w12, w34, w13, (.slc q3089 0 1 1 .true)] 25 .true)),
  (q3093, (.cells [w29, w11, w12, w34, w13, (.slc q3091 0 1 1 .true)] 25 .true)),
  (q3095, (.cells [w29, w11, w12, w34, w13, (.slc q3093 0 1 1 .true)] 25 .true)),
  (q3097, (.cells [w29, w11, w12, w34, w13, (.slc q3095 0 1 1 .true)] 25 .true)),
  (q3099, (.cells [w29, w11, w12, w34, w13, (.slc q3097 0 1 1 .true)] 25 .true)),
  (q3101, (.cells [w29, w11, w12, w34, w13, (.slc q3099 0 1 1 .true)] 25 .true)),
  (q3103, (.cells [w29, w11, w12, w34, w13, (.slc q3101 0 1 1 .true)] 25 .true)),
  (q3105, (.cells [w29, w11, w12, w34, w13, (.slc q3103 0 1 1 .true)] 25 .true)),
  (q3107, (.cells [w29, w11, w12, w34, w13, (.slc q3105 0 1 1 .true)] 25 .true)),
  (q3109, (.cells [w29, w11, w12, w34, w13, (.slc q3107 0 1 1 .true)] 25 .true)),
  (q3111, (.cells [w29, w11, w12, w34, w13, (.slc q3109 0 1 1 .true)] 25 .true)),
  (q3113, (.cells [w29, w11, w12, w34, w13, (.slc q3111 0 1 1 .true)] 25 .true)),
  (q3115, (.cells [w29, w11, w12, w34, w13, (.slc q3113 0 1 1 .true)] 25 .true)),
  (q3117, (.cells [w29, w11, w12, w34, w13, (.slc q3115 0 1 1 .true)] 25 .true)),
  (q3119, (.cells [w29, w11, w12, w34, w13, (.slc q3117 0 1 1 .true)] 25 .true)),
  (q3121, (.cells [w29, w11, w12, w34, w13, (.slc q3119 0 1 1 .true)] 25 .true)),
  (q3123, (.cells [w29, w11, w12, w34, w13, (.slc q3121 0 1 1 .true)] 25 .true)),
  (q3125, (.cells [w29, w11, w12, w34, w13, (.slc q3123 0 1 1 .true)] 25 .true)),
  (q3127, (.cells [w29, w11, w12, w34, w13, (.slc q3125 0 1 1 .true)] 25 .true)),
  (q3129, (.cells [w29, w11, w12, w34, w13, (.slc q3127 0 1 1 .true)] 25 .true)),
  (q3131, (.cells [w29, w11, w12, w34, w13, (.slc q3129 0 1 1 .true)] 25 .true)),
  (q3133, (.cells [w29, w11, w12, w34, w13, (.slc q3131 0 1 1 .true)] 25 .true)),
  (q3135, (.cells [w29, w11, w12, w34, w13, (.slc q3133 0 1 1 .true)] 25 .true)),
  (q3137, (.cells [w29, w11, w12, w34, w13, (.slc q3135 0 1 1 .true)] 25 .true)),
  (q3139, (.cells [w29, w11, w12, w34, w13, (.slc q3137 0 1 1 .true)] 25 .true)),
  (q3141, (.cells [w29, w11, w12, w34, w13, (.slc q3139 0 1 1 .true)] 25 .true)),
  (q3143, (.cells [w29, w11, w12, w34, w13, (.slc q3141 0 1 1 .true)] 25 .true)),
  (q3145, (.cells [w29, w11, w12, w34, w13, (.slc q3143 0 1 1 .true)] 25 .true)),
  (q10132, (.cells [w29, w11, w12, w34, w13, w45] 25 .true)),
  (q3147, (.cells [w25, w11, w12, w30, w13, w31, w25, w11, w12, w30, w13, w31] 25 .true)),
  (q3149, (.cells [w10, w11, w12, w34, w13, (.slc q3147 0 2 2 .true), w10, w11, w12, w34, w13, (.slc q3147 0 2 2 .true)] 25 .true)),
  (q3151, (.cells [w10, w11, w12, w34, w13, w39, w10, w11, w12, w34, w13, w39] 25 .true)),
  (q3153, (.cells [w10, w11, w12, w34, w13, w38, w10, w11, w12, w34, w13, w38] 25 .true)),
  (q3155, (.cells [w10, w11, w12, w34, w13, w40, w10, w11, w12, w34, w13, w40] 25 .true)),
  (q3157, (.cells [w10, w11, w12, w34, w13, w41, w10, w11, w12, w34, w13, w41] 25 .true)),
  (q3159, (.cells [w10, w11, w12, w34, w13, w42, w10, w11, w12, w34, w13, w42] 25 .true)),
  (q3161, (.cells [w10, w11, w12, w34, w13, w43, w10, w11, w12, w34, w13, w43] 25 .true))])
def keep : List Pa := [q0, q3, q6, q8, q15, q16, q17, q18, q19, q20, q21, q22, q23, q24, q25, q26, q27]
def keeps : List (List Pa) := [[q0, q3, q6, q8, q15, q16, q17, q18, q19, q20, q21, q22, q23, q24, q25, q26, q27], [q0, q3, q6, q8, q15, q16, q17, q18, q19, q20, q21, q22, q23, q24, q25, q26, q27], [q0, q3, q6, q8, q15, q16, q17, q18, q19, q20, q21, q22, q23, q24, q25, q26, q27], [q0, q3, q6, q8, q15, q16, q17, q18, q19, q20, q21, q22, q23, q24, q25, q26, q27], [q0, q3, q6, q8, q15, q16, q17, q18, q19, q20, q21, q22, q23, q24, q25, q26, q27], [q1, q3, q5, q6, q7], [q2, q3, q5, q6, q7, q56, q57, q58, q59, q60], [q1, q2, q3, q4, q5, q6, q7, q8, q9, q10], [q0, q1, q12, q13, q16, q18, q20, q22, q24, q26, q28, q30, q32, q34, q36, q38, q40, q42, q43, q44, q45, q46, q48, q49, q50, q333, q334, q335, q336, q337, q338, q339, q340, q341, q342, q343, q344, q345, q346, q347, q348, q349, q350, q351, q352, q353, q354, q355, q356, q357, q358, q359, q360, q361, q362, q363, q364, q365, q366, q367, q368, q369, q370, q371, q372, q373, q374, q375, q376, q377, q378, q379, q380, q381, q382, q383, q384, q385, q386, q387, q388, q389, q390, q391, q392, q393, q394, q395, q396, q397, q398, q399, q400, q401, q402, q403, q404, q405, q406, q407, q408, q409, q410, q411, q412, q413, q414, q415, q416, q417, q418, q419, q420, q421, q422, q423, q424, q425, q426, q427, q428, q429, q430, q431, q432, q433, q434, q435, q436, q437, q438, q439, q440, q441, q442, q443, q444]]
def objs : List Pa := [q11731, q11724, q11717, q11493, q11486, q10590, q10582, q10583, q10571, q10573, q10578, q10576, q10572, q10575, q10574, q10577, q10579, q10581, q10580, q10570, q3, q3027, q3028, q3165, q3163, q9330, q3029, q3031, q3033, q3035, q3037, q3039, q3041, q3043, q3045, q3047, q3049, q3051, q3053, q3055, q3057, q3059, q3061, q3063, q3065, q3067, q3069, q3071, q3073, q3075, q3077, q3079, q3081, q3083, q3085, q3087, q3089, q3091, q3093, q3095, q3097, q3099, q3101, q3103, q3105, q3107, q3109, q3111, q3113, q3115, q3117, q3119, q3121, q3123, q3125, q3127, q3129, q3131, q3133, q3135, q3137, q3139, q3141, q3143, q3145, q10132, q3147, q3149, q3151, q3153, q3155, q3157, q3159, q3161]
end s6

end Go.Proofs.YteoegpkfdbcklaaGreatDoor.termNames
