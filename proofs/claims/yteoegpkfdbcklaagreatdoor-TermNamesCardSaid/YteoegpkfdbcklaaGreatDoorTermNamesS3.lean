/- The run of TermNames: state 3. -/
import Derived.Test.YteoegpkfdbcklaaGreatDoorPlayCut
import Derived.Test.YteoegpkfdbcklaaGreatDoorRows
namespace Go.Proofs.YteoegpkfdbcklaaGreatDoor.termNames
open Go Go.Play
set_option linter.unusedVariables false
set_option maxRecDepth 1000000
namespace s3
def q0 : Pa := .e
def q1 : Pa := (.l .e)
def q2 : Pa := (.r .e)
def q3 : Pa := (.l (.l .e))
def q4 : Pa := (.r (.l .e))
def q5 : Pa := (.l (.r .e))
def q6 : Pa := (.r (.r .e))
def q7 : Pa := (.l (.l (.l .e)))
def q8 : Pa := (.r (.l (.l .e)))
def q9 : Pa := (.l (.r (.l .e)))
def q10 : Pa := (.r (.r (.l .e)))
def q11 : Pa := (.l (.l (.r .e)))
def q12 : Pa := (.r (.l (.r .e)))
def q13 : Pa := (.l (.r (.r .e)))
def q14 : Pa := (.r (.r (.r .e)))
def q15 : Pa := (.l (.l (.l (.l .e))))
def q16 : Pa := (.r (.l (.l (.l .e))))
def q17 : Pa := (.l (.r (.l (.l .e))))
def q18 : Pa := (.r (.r (.l (.l .e))))
def q19 : Pa := (.l (.l (.r (.l .e))))
def q20 : Pa := (.r (.l (.r (.l .e))))
def q21 : Pa := (.l (.r (.r (.l .e))))
def q22 : Pa := (.r (.r (.r (.l .e))))
def q23 : Pa := (.l (.l (.l (.r .e))))
def q24 : Pa := (.r (.l (.l (.r .e))))
def q25 : Pa := (.l (.r (.l (.r .e))))
def q26 : Pa := (.r (.r (.l (.r .e))))
def q27 : Pa := (.l (.l (.r (.r .e))))
def q28 : Pa := (.r (.l (.r (.r .e))))
def q29 : Pa := (.l (.r (.r (.r .e))))
def q30 : Pa := (.r (.r (.r (.r .e))))
def q31 : Pa := (.l (.l (.l (.l (.l .e)))))
def q32 : Pa := (.r (.l (.l (.l (.l .e)))))
def q33 : Pa := (.l (.r (.l (.l (.l .e)))))
def q34 : Pa := (.r (.r (.l (.l (.l .e)))))
def q35 : Pa := (.l (.l (.r (.l (.l .e)))))
def q36 : Pa := (.r (.l (.r (.l (.l .e)))))
def q37 : Pa := (.l (.r (.r (.l (.l .e)))))
def q38 : Pa := (.r (.r (.r (.l (.l .e)))))
def q39 : Pa := (.l (.l (.l (.r (.l .e)))))
def q40 : Pa := (.r (.l (.l (.r (.l .e)))))
def q41 : Pa := (.l (.r (.l (.r (.l .e)))))
def q42 : Pa := (.r (.r (.l (.r (.l .e)))))
def q43 : Pa := (.l (.l (.r (.r (.l .e)))))
def q44 : Pa := (.r (.l (.r (.r (.l .e)))))
def q45 : Pa := (.l (.r (.r (.r (.l .e)))))
def q46 : Pa := (.r (.r (.r (.r (.l .e)))))
def q47 : Pa := (.l (.l (.l (.l (.r .e)))))
def q48 : Pa := (.r (.l (.l (.l (.r .e)))))
def q49 : Pa := (.l (.r (.l (.l (.r .e)))))
def q50 : Pa := (.r (.r (.l (.l (.r .e)))))
def q51 : Pa := (.l (.l (.r (.l (.r .e)))))
def q52 : Pa := (.r (.l (.r (.l (.r .e)))))
def q53 : Pa := (.l (.r (.r (.l (.r .e)))))
def q54 : Pa := (.r (.r (.r (.l (.r .e)))))
def q55 : Pa := (.l (.l (.l (.r (.r .e)))))
def q56 : Pa := (.r (.l (.l (.r (.r .e)))))
def q57 : Pa := (.l (.r (.l (.r (.r .e)))))
def q58 : Pa := (.r (.r (.l (.r (.r .e)))))
def q59 : Pa := (.l (.l (.r (.r (.r .e)))))
def q60 : Pa := (.r (.l (.r (.r (.r .e)))))
def q318 : Pa := (.r (.r (.r (.r (.r (.r (.l (.l .e))))))))
def q319 : Pa := (.l (.l (.l (.l (.l (.l (.r (.l .e))))))))
def q320 : Pa := (.r (.l (.l (.l (.l (.l (.r (.l .e))))))))
def q321 : Pa := (.l (.r (.l (.l (.l (.l (.r (.l .e))))))))
def q322 : Pa := (.r (.r (.l (.l (.l (.l (.r (.l .e))))))))
def q323 : Pa := (.l (.l (.r (.l (.l (.l (.r (.l .e))))))))
def q324 : Pa := (.r (.l (.r (.l (.l (.l (.r (.l .e))))))))
def q325 : Pa := (.l (.r (.r (.l (.l (.l (.r (.l .e))))))))
def q326 : Pa := (.r (.r (.r (.l (.l (.l (.r (.l .e))))))))
def q327 : Pa := (.l (.l (.l (.r (.l (.l (.r (.l .e))))))))
def q328 : Pa := (.r (.l (.l (.r (.l (.l (.r (.l .e))))))))
def q329 : Pa := (.l (.r (.l (.r (.l (.l (.r (.l .e))))))))
def q330 : Pa := (.r (.r (.l (.r (.l (.l (.r (.l .e))))))))
def q331 : Pa := (.l (.l (.r (.r (.l (.l (.r (.l .e))))))))
def q332 : Pa := (.r (.l (.r (.r (.l (.l (.r (.l .e))))))))
def q333 : Pa := (.l (.r (.r (.r (.l (.l (.r (.l .e))))))))
def q334 : Pa := (.r (.r (.r (.r (.l (.l (.r (.l .e))))))))
def q335 : Pa := (.l (.l (.l (.l (.r (.l (.r (.l .e))))))))
def q336 : Pa := (.r (.l (.l (.l (.r (.l (.r (.l .e))))))))
def q337 : Pa := (.l (.r (.l (.l (.r (.l (.r (.l .e))))))))
def q338 : Pa := (.r (.r (.l (.l (.r (.l (.r (.l .e))))))))
def q339 : Pa := (.l (.l (.r (.l (.r (.l (.r (.l .e))))))))
def q340 : Pa := (.r (.l (.r (.l (.r (.l (.r (.l .e))))))))
def q341 : Pa := (.l (.r (.r (.l (.r (.l (.r (.l .e))))))))
def q342 : Pa := (.r (.r (.r (.l (.r (.l (.r (.l .e))))))))
def q343 : Pa := (.l (.l (.l (.r (.r (.l (.r (.l .e))))))))
def q344 : Pa := (.r (.l (.l (.r (.r (.l (.r (.l .e))))))))
def q345 : Pa := (.l (.r (.l (.r (.r (.l (.r (.l .e))))))))
def q346 : Pa := (.r (.r (.l (.r (.r (.l (.r (.l .e))))))))
def q347 : Pa := (.l (.l (.r (.r (.r (.l (.r (.l .e))))))))
def q348 : Pa := (.r (.l (.r (.r (.r (.l (.r (.l .e))))))))
def q349 : Pa := (.l (.r (.r (.r (.r (.l (.r (.l .e))))))))
def q350 : Pa := (.r (.r (.r (.r (.r (.l (.r (.l .e))))))))
def q351 : Pa := (.l (.l (.l (.l (.l (.r (.r (.l .e))))))))
def q352 : Pa := (.r (.l (.l (.l (.l (.r (.r (.l .e))))))))
def q353 : Pa := (.l (.r (.l (.l (.l (.r (.r (.l .e))))))))
def q354 : Pa := (.r (.r (.l (.l (.l (.r (.r (.l .e))))))))
def q355 : Pa := (.l (.l (.r (.l (.l (.r (.r (.l .e))))))))
def q356 : Pa := (.r (.l (.r (.l (.l (.r (.r (.l .e))))))))
def q357 : Pa := (.l (.r (.r (.l (.l (.r (.r (.l .e))))))))
def q358 : Pa := (.r (.r (.r (.l (.l (.r (.r (.l .e))))))))
def q359 : Pa := (.l (.l (.l (.r (.l (.r (.r (.l .e))))))))
def q360 : Pa := (.r (.l (.l (.r (.l (.r (.r (.l .e))))))))
def q361 : Pa := (.l (.r (.l (.r (.l (.r (.r (.l .e))))))))
def q362 : Pa := (.r (.r (.l (.r (.l (.r (.r (.l .e))))))))
def q363 : Pa := (.l (.l (.r (.r (.l (.r (.r (.l .e))))))))
def q364 : Pa := (.r (.l (.r (.r (.l (.r (.r (.l .e))))))))
def q365 : Pa := (.l (.r (.r (.r (.l (.r (.r (.l .e))))))))
def q366 : Pa := (.r (.r (.r (.r (.l (.r (.r (.l .e))))))))
def q367 : Pa := (.l (.l (.l (.l (.r (.r (.r (.l .e))))))))
def q368 : Pa := (.r (.l (.l (.l (.r (.r (.r (.l .e))))))))
def q369 : Pa := (.l (.r (.l (.l (.r (.r (.r (.l .e))))))))
def q370 : Pa := (.r (.r (.l (.l (.r (.r (.r (.l .e))))))))
def q371 : Pa := (.l (.l (.r (.l (.r (.r (.r (.l .e))))))))
def q372 : Pa := (.r (.l (.r (.l (.r (.r (.r (.l .e))))))))
def q373 : Pa := (.l (.r (.r (.l (.r (.r (.r (.l .e))))))))
def q374 : Pa := (.r (.r (.r (.l (.r (.r (.r (.l .e))))))))
def q375 : Pa := (.l (.l (.l (.r (.r (.r (.r (.l .e))))))))
def q376 : Pa := (.r (.l (.l (.r (.r (.r (.r (.l .e))))))))
def q377 : Pa := (.l (.r (.l (.r (.r (.r (.r (.l .e))))))))
def q378 : Pa := (.r (.r (.l (.r (.r (.r (.r (.l .e))))))))
def q379 : Pa := (.l (.l (.r (.r (.r (.r (.r (.l .e))))))))
def q380 : Pa := (.r (.l (.r (.r (.r (.r (.r (.l .e))))))))
def q381 : Pa := (.l (.r (.r (.r (.r (.r (.r (.l .e))))))))
def q382 : Pa := (.r (.r (.r (.r (.r (.r (.r (.l .e))))))))
def q383 : Pa := (.l (.l (.l (.l (.l (.l (.l (.r .e))))))))
def q384 : Pa := (.r (.l (.l (.l (.l (.l (.l (.r .e))))))))
def q385 : Pa := (.l (.r (.l (.l (.l (.l (.l (.r .e))))))))
def q386 : Pa := (.r (.r (.l (.l (.l (.l (.l (.r .e))))))))
def q387 : Pa := (.l (.l (.r (.l (.l (.l (.l (.r .e))))))))
def q388 : Pa := (.r (.l (.r (.l (.l (.l (.l (.r .e))))))))
def q389 : Pa := (.l (.r (.r (.l (.l (.l (.l (.r .e))))))))
def q390 : Pa := (.r (.r (.r (.l (.l (.l (.l (.r .e))))))))
def q391 : Pa := (.l (.l (.l (.r (.l (.l (.l (.r .e))))))))
def q392 : Pa := (.r (.l (.l (.r (.l (.l (.l (.r .e))))))))
def q393 : Pa := (.l (.r (.l (.r (.l (.l (.l (.r .e))))))))
def q394 : Pa := (.r (.r (.l (.r (.l (.l (.l (.r .e))))))))
def q395 : Pa := (.l (.l (.r (.r (.l (.l (.l (.r .e))))))))
def q396 : Pa := (.r (.l (.r (.r (.l (.l (.l (.r .e))))))))
def q397 : Pa := (.l (.r (.r (.r (.l (.l (.l (.r .e))))))))
def q398 : Pa := (.r (.r (.r (.r (.l (.l (.l (.r .e))))))))
def q399 : Pa := (.l (.l (.l (.l (.r (.l (.l (.r .e))))))))
def q400 : Pa := (.r (.l (.l (.l (.r (.l (.l (.r .e))))))))
def q401 : Pa := (.l (.r (.l (.l (.r (.l (.l (.r .e))))))))
def q402 : Pa := (.r (.r (.l (.l (.r (.l (.l (.r .e))))))))
def q403 : Pa := (.l (.l (.r (.l (.r (.l (.l (.r .e))))))))
def q404 : Pa := (.r (.l (.r (.l (.r (.l (.l (.r .e))))))))
def q405 : Pa := (.l (.r (.r (.l (.r (.l (.l (.r .e))))))))
def q406 : Pa := (.r (.r (.r (.l (.r (.l (.l (.r .e))))))))
def q407 : Pa := (.l (.l (.l (.r (.r (.l (.l (.r .e))))))))
def q408 : Pa := (.r (.l (.l (.r (.r (.l (.l (.r .e))))))))
def q409 : Pa := (.l (.r (.l (.r (.r (.l (.l (.r .e))))))))
def q410 : Pa := (.r (.r (.l (.r (.r (.l (.l (.r .e))))))))
def q411 : Pa := (.l (.l (.r (.r (.r (.l (.l (.r .e))))))))
def q412 : Pa := (.r (.l (.r (.r (.r (.l (.l (.r .e))))))))
def q413 : Pa := (.l (.r (.r (.r (.r (.l (.l (.r .e))))))))
def q414 : Pa := (.r (.r (.r (.r (.r (.l (.l (.r .e))))))))
def q415 : Pa := (.l (.l (.l (.l (.l (.r (.l (.r .e))))))))
def q416 : Pa := (.r (.l (.l (.l (.l (.r (.l (.r .e))))))))
def q417 : Pa := (.l (.r (.l (.l (.l (.r (.l (.r .e))))))))
def q418 : Pa := (.r (.r (.l (.l (.l (.r (.l (.r .e))))))))
def q419 : Pa := (.l (.l (.r (.l (.l (.r (.l (.r .e))))))))
def q420 : Pa := (.r (.l (.r (.l (.l (.r (.l (.r .e))))))))
def q421 : Pa := (.l (.r (.r (.l (.l (.r (.l (.r .e))))))))
def q422 : Pa := (.r (.r (.r (.l (.l (.r (.l (.r .e))))))))
def q423 : Pa := (.l (.l (.l (.r (.l (.r (.l (.r .e))))))))
def q424 : Pa := (.r (.l (.l (.r (.l (.r (.l (.r .e))))))))
def q425 : Pa := (.l (.r (.l (.r (.l (.r (.l (.r .e))))))))
def q426 : Pa := (.r (.r (.l (.r (.l (.r (.l (.r .e))))))))
def q427 : Pa := (.l (.l (.r (.r (.l (.r (.l (.r .e))))))))
def q428 : Pa := (.r (.l (.r (.r (.l (.r (.l (.r .e))))))))
def q429 : Pa := (.l (.r (.r (.r (.l (.r (.l (.r .e))))))))
def q430 : Pa := (.r (.r (.r (.r (.l (.r (.l (.r .e))))))))
def q431 : Pa := (.l (.l (.l (.l (.r (.r (.l (.r .e))))))))
def q432 : Pa := (.r (.l (.l (.l (.r (.r (.l (.r .e))))))))
def q433 : Pa := (.l (.r (.l (.l (.r (.r (.l (.r .e))))))))
def q434 : Pa := (.r (.r (.l (.l (.r (.r (.l (.r .e))))))))
def q435 : Pa := (.l (.l (.r (.l (.r (.r (.l (.r .e))))))))
def q436 : Pa := (.r (.l (.r (.l (.r (.r (.l (.r .e))))))))
def q437 : Pa := (.l (.r (.r (.l (.r (.r (.l (.r .e))))))))
def q438 : Pa := (.r (.r (.r (.l (.r (.r (.l (.r .e))))))))
def q439 : Pa := (.l (.l (.l (.r (.r (.r (.l (.r .e))))))))
def q440 : Pa := (.r (.l (.l (.r (.r (.r (.l (.r .e))))))))
def q441 : Pa := (.l (.r (.l (.r (.r (.r (.l (.r .e))))))))
def q442 : Pa := (.r (.r (.l (.r (.r (.r (.l (.r .e))))))))
def q443 : Pa := (.l (.l (.r (.r (.r (.r (.l (.r .e))))))))
def q444 : Pa := (.r (.l (.r (.r (.r (.r (.l (.r .e))))))))
def q3027 : Pa := (.l (.l (.r (.l (.r (.l (.r (.r (.r (.r (.l .e)))))))))))
def q3028 : Pa := (.r (.l (.r (.l (.r (.l (.r (.r (.r (.r (.l .e)))))))))))
def q3029 : Pa := (.l (.r (.r (.l (.r (.l (.r (.r (.r (.r (.l .e)))))))))))
def q3031 : Pa := (.l (.l (.l (.r (.r (.l (.r (.r (.r (.r (.l .e)))))))))))
def q3033 : Pa := (.l (.r (.l (.r (.r (.l (.r (.r (.r (.r (.l .e)))))))))))
def q3035 : Pa := (.l (.l (.r (.r (.r (.l (.r (.r (.r (.r (.l .e)))))))))))
def q3037 : Pa := (.l (.r (.r (.r (.r (.l (.r (.r (.r (.r (.l .e)))))))))))
def q3039 : Pa := (.l (.l (.l (.l (.l (.r (.r (.r (.r (.r (.l .e)))))))))))
def q3041 : Pa := (.l (.r (.l (.l (.l (.r (.r (.r (.r (.r (.l .e)))))))))))
def q3043 : Pa := (.l (.l (.r (.l (.l (.r (.r (.r (.r (.r (.l .e)))))))))))
def q3045 : Pa := (.l (.r (.r (.l (.l (.r (.r (.r (.r (.r (.l .e)))))))))))
def q3047 : Pa := (.l (.l (.l (.r (.l (.r (.r (.r (.r (.r (.l .e)))))))))))
def q3049 : Pa := (.l (.r (.l (.r (.l (.r (.r (.r (.r (.r (.l .e)))))))))))
def q3051 : Pa := (.l (.l (.r (.r (.l (.r (.r (.r (.r (.r (.l .e)))))))))))
def q3053 : Pa := (.l (.r (.r (.r (.l (.r (.r (.r (.r (.r (.l .e)))))))))))
def q3055 : Pa := (.l (.l (.l (.l (.r (.r (.r (.r (.r (.r (.l .e)))))))))))
def q3057 : Pa := (.l (.r (.l (.l (.r (.r (.r (.r (.r (.r (.l .e)))))))))))
def q3059 : Pa := (.l (.l (.r (.l (.r (.r (.r (.r (.r (.r (.l .e)))))))))))
def q3061 : Pa := (.l (.r (.r (.l (.r (.r (.r (.r (.r (.r (.l .e)))))))))))
def q3063 : Pa := (.l (.l (.l (.r (.r (.r (.r (.r (.r (.r (.l .e)))))))))))
def q3065 : Pa := (.l (.r (.l (.r (.r (.r (.r (.r (.r (.r (.l .e)))))))))))
def q3067 : Pa := (.l (.l (.r (.r (.r (.r (.r (.r (.r (.r (.l .e)))))))))))
def q3069 : Pa := (.l (.r (.r (.r (.r (.r (.r (.r (.r (.r (.l .e)))))))))))
def q3071 : Pa := (.l (.l (.l (.l (.l (.l (.l (.l (.l (.l (.r .e)))))))))))
def q3073 : Pa := (.l (.r (.l (.l (.l (.l (.l (.l (.l (.l (.r .e)))))))))))
def q3075 : Pa := (.l (.l (.r (.l (.l (.l (.l (.l (.l (.l (.r .e)))))))))))
def q3077 : Pa := (.l (.r (.r (.l (.l (.l (.l (.l (.l (.l (.r .e)))))))))))
def q3079 : Pa := (.l (.l (.l (.r (.l (.l (.l (.l (.l (.l (.r .e)))))))))))
def q3081 : Pa := (.l (.r (.l (.r (.l (.l (.l (.l (.l (.l (.r .e)))))))))))
def q3083 : Pa := (.l (.l (.r (.r (.l (.l (.l (.l (.l (.l (.r .e)))))))))))
def q3085 : Pa := (.l (.r (.r (.r (.l (.l (.l (.l (.l (.l (.r .e)))))))))))
def q3087 : Pa := (.l (.l (.l (.l (.r (.l (.l (.l (.l (.l (.r .e)))))))))))
def q3089 : Pa := (.l (.r (.l (.l (.r (.l (.l (.l (.l (.l (.r .e)))))))))))
def q3091 : Pa := (.l (.l (.r (.l (.r (.l (.l (.l (.l (.l (.r .e)))))))))))
def q3093 : Pa := (.l (.r (.r (.l (.r (.l (.l (.l (.l (.l (.r .e)))))))))))
def q3095 : Pa := (.l (.l (.l (.r (.r (.l (.l (.l (.l (.l (.r .e)))))))))))
def q3097 : Pa := (.l (.r (.l (.r (.r (.l (.l (.l (.l (.l (.r .e)))))))))))
def q3099 : Pa := (.l (.l (.r (.r (.r (.l (.l (.l (.l (.l (.r .e)))))))))))
def q3101 : Pa := (.l (.r (.r (.r (.r (.l (.l (.l (.l (.l (.r .e)))))))))))
def q3103 : Pa := (.l (.l (.l (.l (.l (.r (.l (.l (.l (.l (.r .e)))))))))))
def q3105 : Pa := (.l (.r (.l (.l (.l (.r (.l (.l (.l (.l (.r .e)))))))))))
def q3107 : Pa := (.l (.l (.r (.l (.l (.r (.l (.l (.l (.l (.r .e)))))))))))
def q3109 : Pa := (.l (.r (.r (.l (.l (.r (.l (.l (.l (.l (.r .e)))))))))))
def q3111 : Pa := (.l (.l (.l (.r (.l (.r (.l (.l (.l (.l (.r .e)))))))))))
def q3113 : Pa := (.l (.r (.l (.r (.l (.r (.l (.l (.l (.l (.r .e)))))))))))
def q3115 : Pa := (.l (.l (.r (.r (.l (.r (.l (.l (.l (.l (.r .e)))))))))))
def q3117 : Pa := (.l (.r (.r (.r (.l (.r (.l (.l (.l (.l (.r .e)))))))))))
def q3119 : Pa := (.l (.l (.l (.l (.r (.r (.l (.l (.l (.l (.r .e)))))))))))
def q3121 : Pa := (.l (.r (.l (.l (.r (.r (.l (.l (.l (.l (.r .e)))))))))))
def q3123 : Pa := (.l (.l (.r (.l (.r (.r (.l (.l (.l (.l (.r .e)))))))))))
def q3125 : Pa := (.l (.r (.r (.l (.r (.r (.l (.l (.l (.l (.r .e)))))))))))
def q3127 : Pa := (.l (.l (.l (.r (.r (.r (.l (.l (.l (.l (.r .e)))))))))))
def q3129 : Pa := (.l (.r (.l (.r (.r (.r (.l (.l (.l (.l (.r .e)))))))))))
def q3131 : Pa := (.l (.l (.r (.r (.r (.r (.l (.l (.l (.l (.r .e)))))))))))
def q3133 : Pa := (.l (.r (.r (.r (.r (.r (.l (.l (.l (.l (.r .e)))))))))))
def q3135 : Pa := (.l (.l (.l (.l (.l (.l (.r (.l (.l (.l (.r .e)))))))))))
def q3137 : Pa := (.l (.r (.l (.l (.l (.l (.r (.l (.l (.l (.r .e)))))))))))
def q3139 : Pa := (.l (.l (.r (.l (.l (.l (.r (.l (.l (.l (.r .e)))))))))))
def q3141 : Pa := (.l (.r (.r (.l (.l (.l (.r (.l (.l (.l (.r .e)))))))))))
def q3143 : Pa := (.l (.l (.l (.r (.l (.l (.r (.l (.l (.l (.r .e)))))))))))
def q3145 : Pa := (.l (.r (.l (.r (.l (.l (.r (.l (.l (.l (.r .e)))))))))))
def q3147 : Pa := (.l (.l (.r (.r (.l (.l (.r (.l (.l (.l (.r .e)))))))))))
def q3149 : Pa := (.l (.r (.r (.r (.l (.l (.r (.l (.l (.l (.r .e)))))))))))
def q3151 : Pa := (.l (.l (.l (.l (.r (.l (.r (.l (.l (.l (.r .e)))))))))))
def q3153 : Pa := (.l (.r (.l (.l (.r (.l (.r (.l (.l (.l (.r .e)))))))))))
def q3155 : Pa := (.l (.l (.r (.l (.r (.l (.r (.l (.l (.l (.r .e)))))))))))
def q3157 : Pa := (.l (.r (.r (.l (.r (.l (.r (.l (.l (.l (.r .e)))))))))))
def q3159 : Pa := (.l (.l (.l (.r (.r (.l (.r (.l (.l (.l (.r .e)))))))))))
def q3161 : Pa := (.l (.r (.l (.r (.r (.l (.r (.l (.l (.l (.r .e)))))))))))
def q3163 : Pa := (.l (.l (.r (.r (.r (.l (.r (.l (.l (.l (.r .e)))))))))))
def q3165 : Pa := (.l (.r (.r (.r (.r (.l (.r (.l (.l (.l (.r .e)))))))))))
def q3544 : Pa := (.r (.l (.l (.r (.r (.l (.r (.r (.r (.l (.r .e)))))))))))
def q3549 : Pa := (.l (.r (.r (.r (.r (.l (.r (.r (.r (.l (.r .e)))))))))))
def q3551 : Pa := (.l (.l (.l (.l (.l (.r (.r (.r (.r (.l (.r .e)))))))))))
def q3553 : Pa := (.l (.r (.l (.l (.l (.r (.r (.r (.r (.l (.r .e)))))))))))
def q3555 : Pa := (.l (.l (.r (.l (.l (.r (.r (.r (.r (.l (.r .e)))))))))))
def q3557 : Pa := (.l (.r (.r (.l (.l (.r (.r (.r (.r (.l (.r .e)))))))))))
def q3559 : Pa := (.l (.l (.l (.r (.l (.r (.r (.r (.r (.l (.r .e)))))))))))
def q3561 : Pa := (.l (.r (.l (.r (.l (.r (.r (.r (.r (.l (.r .e)))))))))))
def q3565 : Pa := (.l (.r (.r (.r (.l (.r (.r (.r (.r (.l (.r .e)))))))))))
def q5401 : Pa := (.l (.r (.l (.r (.r (.l (.l (.l (.r (.l (.r (.l .e))))))))))))
def q5410 : Pa := (.r (.r (.l (.l (.l (.r (.l (.l (.r (.l (.r (.l .e))))))))))))
def q5415 : Pa := (.l (.l (.l (.r (.l (.r (.l (.l (.r (.l (.r (.l .e))))))))))))
def q5420 : Pa := (.r (.l (.r (.r (.l (.r (.l (.l (.r (.l (.r (.l .e))))))))))))
def q5425 : Pa := (.l (.r (.l (.l (.r (.r (.l (.l (.r (.l (.r (.l .e))))))))))))
def q5430 : Pa := (.r (.r (.r (.l (.r (.r (.l (.l (.r (.l (.r (.l .e))))))))))))
def q5435 : Pa := (.l (.l (.r (.r (.r (.r (.l (.l (.r (.l (.r (.l .e))))))))))))
def q5440 : Pa := (.r (.l (.l (.l (.l (.l (.r (.l (.r (.l (.r (.l .e))))))))))))
def q5445 : Pa := (.l (.r (.r (.l (.l (.l (.r (.l (.r (.l (.r (.l .e))))))))))))
def q5449 : Pa := (.l (.r (.l (.r (.l (.l (.r (.l (.r (.l (.r (.l .e))))))))))))
def q5453 : Pa := (.l (.r (.r (.r (.l (.l (.r (.l (.r (.l (.r (.l .e))))))))))))
def q5457 : Pa := (.l (.r (.l (.l (.r (.l (.r (.l (.r (.l (.r (.l .e))))))))))))
def q5461 : Pa := (.l (.r (.r (.l (.r (.l (.r (.l (.r (.l (.r (.l .e))))))))))))
def q5465 : Pa := (.l (.r (.l (.r (.r (.l (.r (.l (.r (.l (.r (.l .e))))))))))))
def q5469 : Pa := (.l (.r (.r (.r (.r (.l (.r (.l (.r (.l (.r (.l .e))))))))))))
def q5473 : Pa := (.l (.r (.l (.l (.l (.r (.r (.l (.r (.l (.r (.l .e))))))))))))
def q5477 : Pa := (.l (.r (.r (.l (.l (.r (.r (.l (.r (.l (.r (.l .e))))))))))))
def q5481 : Pa := (.l (.r (.l (.r (.l (.r (.r (.l (.r (.l (.r (.l .e))))))))))))
def q5485 : Pa := (.l (.r (.r (.r (.l (.r (.r (.l (.r (.l (.r (.l .e))))))))))))
def q5489 : Pa := (.l (.r (.l (.l (.r (.r (.r (.l (.r (.l (.r (.l .e))))))))))))
def q5493 : Pa := (.l (.r (.r (.l (.r (.r (.r (.l (.r (.l (.r (.l .e))))))))))))
def q5497 : Pa := (.l (.r (.l (.r (.r (.r (.r (.l (.r (.l (.r (.l .e))))))))))))
def q5501 : Pa := (.l (.r (.r (.r (.r (.r (.r (.l (.r (.l (.r (.l .e))))))))))))
def q5505 : Pa := (.l (.r (.l (.l (.l (.l (.l (.r (.r (.l (.r (.l .e))))))))))))
def q5509 : Pa := (.l (.r (.r (.l (.l (.l (.l (.r (.r (.l (.r (.l .e))))))))))))
def q5513 : Pa := (.l (.r (.l (.r (.l (.l (.l (.r (.r (.l (.r (.l .e))))))))))))
def q5517 : Pa := (.l (.r (.r (.r (.l (.l (.l (.r (.r (.l (.r (.l .e))))))))))))
def q5521 : Pa := (.l (.r (.l (.l (.r (.l (.l (.r (.r (.l (.r (.l .e))))))))))))
def q5525 : Pa := (.l (.r (.r (.l (.r (.l (.l (.r (.r (.l (.r (.l .e))))))))))))
def q5529 : Pa := (.l (.r (.l (.r (.r (.l (.l (.r (.r (.l (.r (.l .e))))))))))))
def q5533 : Pa := (.l (.r (.r (.r (.r (.l (.l (.r (.r (.l (.r (.l .e))))))))))))
def q5537 : Pa := (.l (.r (.l (.l (.l (.r (.l (.r (.r (.l (.r (.l .e))))))))))))
def q5541 : Pa := (.l (.r (.r (.l (.l (.r (.l (.r (.r (.l (.r (.l .e))))))))))))
def q5545 : Pa := (.l (.r (.l (.r (.l (.r (.l (.r (.r (.l (.r (.l .e))))))))))))
def q5549 : Pa := (.l (.r (.r (.r (.l (.r (.l (.r (.r (.l (.r (.l .e))))))))))))
def q5553 : Pa := (.l (.r (.l (.l (.r (.r (.l (.r (.r (.l (.r (.l .e))))))))))))
def q5557 : Pa := (.l (.r (.r (.l (.r (.r (.l (.r (.r (.l (.r (.l .e))))))))))))
def q5561 : Pa := (.l (.r (.l (.r (.r (.r (.l (.r (.r (.l (.r (.l .e))))))))))))
def q5565 : Pa := (.l (.r (.r (.r (.r (.r (.l (.r (.r (.l (.r (.l .e))))))))))))
def q5569 : Pa := (.l (.r (.l (.l (.l (.l (.r (.r (.r (.l (.r (.l .e))))))))))))
def q5573 : Pa := (.l (.r (.r (.l (.l (.l (.r (.r (.r (.l (.r (.l .e))))))))))))
def q5577 : Pa := (.l (.r (.l (.r (.l (.l (.r (.r (.r (.l (.r (.l .e))))))))))))
def q5581 : Pa := (.l (.r (.r (.r (.l (.l (.r (.r (.r (.l (.r (.l .e))))))))))))
def q5585 : Pa := (.l (.r (.l (.l (.r (.l (.r (.r (.r (.l (.r (.l .e))))))))))))
def q5589 : Pa := (.l (.r (.r (.l (.r (.l (.r (.r (.r (.l (.r (.l .e))))))))))))
def q5593 : Pa := (.l (.r (.l (.r (.r (.l (.r (.r (.r (.l (.r (.l .e))))))))))))
def q5597 : Pa := (.l (.r (.r (.r (.r (.l (.r (.r (.r (.l (.r (.l .e))))))))))))
def q5601 : Pa := (.l (.r (.l (.l (.l (.r (.r (.r (.r (.l (.r (.l .e))))))))))))
def q5605 : Pa := (.l (.r (.r (.l (.l (.r (.r (.r (.r (.l (.r (.l .e))))))))))))
def q5609 : Pa := (.l (.r (.l (.r (.l (.r (.r (.r (.r (.l (.r (.l .e))))))))))))
def q5613 : Pa := (.l (.r (.r (.r (.l (.r (.r (.r (.r (.l (.r (.l .e))))))))))))
def q5617 : Pa := (.l (.r (.l (.l (.r (.r (.r (.r (.r (.l (.r (.l .e))))))))))))
def q5621 : Pa := (.l (.r (.r (.l (.r (.r (.r (.r (.r (.l (.r (.l .e))))))))))))
def q5625 : Pa := (.l (.r (.l (.r (.r (.r (.r (.r (.r (.l (.r (.l .e))))))))))))
def q5629 : Pa := (.l (.r (.r (.r (.r (.r (.r (.r (.r (.l (.r (.l .e))))))))))))
def q5633 : Pa := (.l (.r (.l (.l (.l (.l (.l (.l (.l (.r (.r (.l .e))))))))))))
def q5637 : Pa := (.l (.r (.r (.l (.l (.l (.l (.l (.l (.r (.r (.l .e))))))))))))
def q5641 : Pa := (.l (.r (.l (.r (.l (.l (.l (.l (.l (.r (.r (.l .e))))))))))))
def q5645 : Pa := (.l (.r (.r (.r (.l (.l (.l (.l (.l (.r (.r (.l .e))))))))))))
def q5649 : Pa := (.l (.r (.l (.l (.r (.l (.l (.l (.l (.r (.r (.l .e))))))))))))
def q5653 : Pa := (.l (.r (.r (.l (.r (.l (.l (.l (.l (.r (.r (.l .e))))))))))))
def q5657 : Pa := (.l (.r (.l (.r (.r (.l (.l (.l (.l (.r (.r (.l .e))))))))))))
def q5661 : Pa := (.l (.r (.r (.r (.r (.l (.l (.l (.l (.r (.r (.l .e))))))))))))
def q5665 : Pa := (.l (.r (.l (.l (.l (.r (.l (.l (.l (.r (.r (.l .e))))))))))))
def q5669 : Pa := (.l (.r (.r (.l (.l (.r (.l (.l (.l (.r (.r (.l .e))))))))))))
def q5673 : Pa := (.l (.r (.l (.r (.l (.r (.l (.l (.l (.r (.r (.l .e))))))))))))
def q5677 : Pa := (.l (.r (.r (.r (.l (.r (.l (.l (.l (.r (.r (.l .e))))))))))))
def q5681 : Pa := (.l (.r (.l (.l (.r (.r (.l (.l (.l (.r (.r (.l .e))))))))))))
def q5685 : Pa := (.l (.r (.r (.l (.r (.r (.l (.l (.l (.r (.r (.l .e))))))))))))
def q5689 : Pa := (.l (.r (.l (.r (.r (.r (.l (.l (.l (.r (.r (.l .e))))))))))))
def q5693 : Pa := (.l (.r (.r (.r (.r (.r (.l (.l (.l (.r (.r (.l .e))))))))))))
def q5697 : Pa := (.l (.r (.l (.l (.l (.l (.r (.l (.l (.r (.r (.l .e))))))))))))
def q5701 : Pa := (.l (.r (.r (.l (.l (.l (.r (.l (.l (.r (.r (.l .e))))))))))))
def q5705 : Pa := (.l (.r (.l (.r (.l (.l (.r (.l (.l (.r (.r (.l .e))))))))))))
def q5709 : Pa := (.l (.r (.r (.r (.l (.l (.r (.l (.l (.r (.r (.l .e))))))))))))
def q5713 : Pa := (.l (.r (.l (.l (.r (.l (.r (.l (.l (.r (.r (.l .e))))))))))))
def q5717 : Pa := (.l (.r (.r (.l (.r (.l (.r (.l (.l (.r (.r (.l .e))))))))))))
def q5721 : Pa := (.l (.r (.l (.r (.r (.l (.r (.l (.l (.r (.r (.l .e))))))))))))
def q5725 : Pa := (.l (.r (.r (.r (.r (.l (.r (.l (.l (.r (.r (.l .e))))))))))))
def q5729 : Pa := (.l (.r (.l (.l (.l (.r (.r (.l (.l (.r (.r (.l .e))))))))))))
def q5733 : Pa := (.l (.r (.r (.l (.l (.r (.r (.l (.l (.r (.r (.l .e))))))))))))
def q5737 : Pa := (.l (.r (.l (.r (.l (.r (.r (.l (.l (.r (.r (.l .e))))))))))))
def q5741 : Pa := (.l (.r (.r (.r (.l (.r (.r (.l (.l (.r (.r (.l .e))))))))))))
def q5745 : Pa := (.l (.r (.l (.l (.r (.r (.r (.l (.l (.r (.r (.l .e))))))))))))
def q5749 : Pa := (.l (.r (.r (.l (.r (.r (.r (.l (.l (.r (.r (.l .e))))))))))))
def q5753 : Pa := (.l (.r (.l (.r (.r (.r (.r (.l (.l (.r (.r (.l .e))))))))))))
def q5757 : Pa := (.l (.r (.r (.r (.r (.r (.r (.l (.l (.r (.r (.l .e))))))))))))
def q5761 : Pa := (.l (.r (.l (.l (.l (.l (.l (.r (.l (.r (.r (.l .e))))))))))))
def q5765 : Pa := (.l (.r (.r (.l (.l (.l (.l (.r (.l (.r (.r (.l .e))))))))))))
def q5769 : Pa := (.l (.r (.l (.r (.l (.l (.l (.r (.l (.r (.r (.l .e))))))))))))
def q5773 : Pa := (.l (.r (.r (.r (.l (.l (.l (.r (.l (.r (.r (.l .e))))))))))))
def q5777 : Pa := (.l (.r (.l (.l (.r (.l (.l (.r (.l (.r (.r (.l .e))))))))))))
def q5781 : Pa := (.l (.r (.r (.l (.r (.l (.l (.r (.l (.r (.r (.l .e))))))))))))
def q5785 : Pa := (.l (.r (.l (.r (.r (.l (.l (.r (.l (.r (.r (.l .e))))))))))))
def q5789 : Pa := (.l (.r (.r (.r (.r (.l (.l (.r (.l (.r (.r (.l .e))))))))))))
def q5793 : Pa := (.l (.r (.l (.l (.l (.r (.l (.r (.l (.r (.r (.l .e))))))))))))
def q5797 : Pa := (.l (.r (.r (.l (.l (.r (.l (.r (.l (.r (.r (.l .e))))))))))))
def q5801 : Pa := (.l (.r (.l (.r (.l (.r (.l (.r (.l (.r (.r (.l .e))))))))))))
def q5805 : Pa := (.l (.r (.r (.r (.l (.r (.l (.r (.l (.r (.r (.l .e))))))))))))
def q5809 : Pa := (.l (.r (.l (.l (.r (.r (.l (.r (.l (.r (.r (.l .e))))))))))))
def q5813 : Pa := (.l (.r (.r (.l (.r (.r (.l (.r (.l (.r (.r (.l .e))))))))))))
def q5817 : Pa := (.l (.r (.l (.r (.r (.r (.l (.r (.l (.r (.r (.l .e))))))))))))
def q5821 : Pa := (.l (.r (.r (.r (.r (.r (.l (.r (.l (.r (.r (.l .e))))))))))))
def q5825 : Pa := (.l (.r (.l (.l (.l (.l (.r (.r (.l (.r (.r (.l .e))))))))))))
def q5829 : Pa := (.l (.r (.r (.l (.l (.l (.r (.r (.l (.r (.r (.l .e))))))))))))
def q5833 : Pa := (.l (.r (.l (.r (.l (.l (.r (.r (.l (.r (.r (.l .e))))))))))))
def q5837 : Pa := (.l (.r (.r (.r (.l (.l (.r (.r (.l (.r (.r (.l .e))))))))))))
def q5841 : Pa := (.l (.r (.l (.l (.r (.l (.r (.r (.l (.r (.r (.l .e))))))))))))
def q5845 : Pa := (.l (.r (.r (.l (.r (.l (.r (.r (.l (.r (.r (.l .e))))))))))))
def q5849 : Pa := (.l (.r (.l (.r (.r (.l (.r (.r (.l (.r (.r (.l .e))))))))))))
def q5853 : Pa := (.l (.r (.r (.r (.r (.l (.r (.r (.l (.r (.r (.l .e))))))))))))
def q5857 : Pa := (.l (.r (.l (.l (.l (.r (.r (.r (.l (.r (.r (.l .e))))))))))))
def q5861 : Pa := (.l (.r (.r (.l (.l (.r (.r (.r (.l (.r (.r (.l .e))))))))))))
def q5865 : Pa := (.l (.r (.l (.r (.l (.r (.r (.r (.l (.r (.r (.l .e))))))))))))
def q5869 : Pa := (.l (.r (.r (.r (.l (.r (.r (.r (.l (.r (.r (.l .e))))))))))))
def q5873 : Pa := (.l (.r (.l (.l (.r (.r (.r (.r (.l (.r (.r (.l .e))))))))))))
def q5877 : Pa := (.l (.r (.r (.l (.r (.r (.r (.r (.l (.r (.r (.l .e))))))))))))
def q5881 : Pa := (.l (.r (.l (.r (.r (.r (.r (.r (.l (.r (.r (.l .e))))))))))))
def q5885 : Pa := (.l (.r (.r (.r (.r (.r (.r (.r (.l (.r (.r (.l .e))))))))))))
def q5889 : Pa := (.l (.r (.l (.l (.l (.l (.l (.l (.r (.r (.r (.l .e))))))))))))
def q5893 : Pa := (.l (.r (.r (.l (.l (.l (.l (.l (.r (.r (.r (.l .e))))))))))))
def q5897 : Pa := (.l (.r (.l (.r (.l (.l (.l (.l (.r (.r (.r (.l .e))))))))))))
def q5901 : Pa := (.l (.r (.r (.r (.l (.l (.l (.l (.r (.r (.r (.l .e))))))))))))
def q5905 : Pa := (.l (.r (.l (.l (.r (.l (.l (.l (.r (.r (.r (.l .e))))))))))))
def q5909 : Pa := (.l (.r (.r (.l (.r (.l (.l (.l (.r (.r (.r (.l .e))))))))))))
def q5913 : Pa := (.l (.r (.l (.r (.r (.l (.l (.l (.r (.r (.r (.l .e))))))))))))
def q5917 : Pa := (.l (.r (.r (.r (.r (.l (.l (.l (.r (.r (.r (.l .e))))))))))))
def q5921 : Pa := (.l (.r (.l (.l (.l (.r (.l (.l (.r (.r (.r (.l .e))))))))))))
def q5932 : Pa := (.r (.l (.r (.r (.l (.r (.l (.l (.r (.r (.r (.l .e))))))))))))
def q5937 : Pa := (.l (.r (.l (.l (.r (.r (.l (.l (.r (.r (.r (.l .e))))))))))))
def q5942 : Pa := (.r (.r (.r (.l (.r (.r (.l (.l (.r (.r (.r (.l .e))))))))))))
def q5947 : Pa := (.l (.l (.r (.r (.r (.r (.l (.l (.r (.r (.r (.l .e))))))))))))
def q5952 : Pa := (.r (.l (.l (.l (.l (.l (.r (.l (.r (.r (.r (.l .e))))))))))))
def q5957 : Pa := (.l (.r (.r (.l (.l (.l (.r (.l (.r (.r (.r (.l .e))))))))))))
def q5962 : Pa := (.r (.r (.l (.r (.l (.l (.r (.l (.r (.r (.r (.l .e))))))))))))
def q5967 : Pa := (.l (.l (.l (.l (.r (.l (.r (.l (.r (.r (.r (.l .e))))))))))))
def q5971 : Pa := (.l (.l (.r (.l (.r (.l (.r (.l (.r (.r (.r (.l .e))))))))))))
def q5975 : Pa := (.l (.l (.l (.r (.r (.l (.r (.l (.r (.r (.r (.l .e))))))))))))
def q5979 : Pa := (.l (.l (.r (.r (.r (.l (.r (.l (.r (.r (.r (.l .e))))))))))))
def q5983 : Pa := (.l (.l (.l (.l (.l (.r (.r (.l (.r (.r (.r (.l .e))))))))))))
def q5987 : Pa := (.l (.l (.r (.l (.l (.r (.r (.l (.r (.r (.r (.l .e))))))))))))
def q5991 : Pa := (.l (.l (.l (.r (.l (.r (.r (.l (.r (.r (.r (.l .e))))))))))))
def q5995 : Pa := (.l (.l (.r (.r (.l (.r (.r (.l (.r (.r (.r (.l .e))))))))))))
def q5999 : Pa := (.l (.l (.l (.l (.r (.r (.r (.l (.r (.r (.r (.l .e))))))))))))
def q6003 : Pa := (.l (.l (.r (.l (.r (.r (.r (.l (.r (.r (.r (.l .e))))))))))))
def q6007 : Pa := (.l (.l (.l (.r (.r (.r (.r (.l (.r (.r (.r (.l .e))))))))))))
def q6011 : Pa := (.l (.l (.r (.r (.r (.r (.r (.l (.r (.r (.r (.l .e))))))))))))
def q6015 : Pa := (.l (.l (.l (.l (.l (.l (.l (.r (.r (.r (.r (.l .e))))))))))))
def q6019 : Pa := (.l (.l (.r (.l (.l (.l (.l (.r (.r (.r (.r (.l .e))))))))))))
def q6023 : Pa := (.l (.l (.l (.r (.l (.l (.l (.r (.r (.r (.r (.l .e))))))))))))
def q6027 : Pa := (.l (.l (.r (.r (.l (.l (.l (.r (.r (.r (.r (.l .e))))))))))))
def q6031 : Pa := (.l (.l (.l (.l (.r (.l (.l (.r (.r (.r (.r (.l .e))))))))))))
def q6035 : Pa := (.l (.l (.r (.l (.r (.l (.l (.r (.r (.r (.r (.l .e))))))))))))
def q6039 : Pa := (.l (.l (.l (.r (.r (.l (.l (.r (.r (.r (.r (.l .e))))))))))))
def q6043 : Pa := (.l (.l (.r (.r (.r (.l (.l (.r (.r (.r (.r (.l .e))))))))))))
def q6047 : Pa := (.l (.l (.l (.l (.l (.r (.l (.r (.r (.r (.r (.l .e))))))))))))
def q6051 : Pa := (.l (.l (.r (.l (.l (.r (.l (.r (.r (.r (.r (.l .e))))))))))))
def q6055 : Pa := (.l (.l (.l (.r (.l (.r (.l (.r (.r (.r (.r (.l .e))))))))))))
def q6059 : Pa := (.l (.l (.r (.r (.l (.r (.l (.r (.r (.r (.r (.l .e))))))))))))
def q6063 : Pa := (.l (.l (.l (.l (.r (.r (.l (.r (.r (.r (.r (.l .e))))))))))))
def q6067 : Pa := (.l (.l (.r (.l (.r (.r (.l (.r (.r (.r (.r (.l .e))))))))))))
def q6071 : Pa := (.l (.l (.l (.r (.r (.r (.l (.r (.r (.r (.r (.l .e))))))))))))
def q6075 : Pa := (.l (.l (.r (.r (.r (.r (.l (.r (.r (.r (.r (.l .e))))))))))))
def q6079 : Pa := (.l (.l (.l (.l (.l (.l (.r (.r (.r (.r (.r (.l .e))))))))))))
def q6083 : Pa := (.l (.l (.r (.l (.l (.l (.r (.r (.r (.r (.r (.l .e))))))))))))
def q6087 : Pa := (.l (.l (.l (.r (.l (.l (.r (.r (.r (.r (.r (.l .e))))))))))))
def q6091 : Pa := (.l (.l (.r (.r (.l (.l (.r (.r (.r (.r (.r (.l .e))))))))))))
def q6095 : Pa := (.l (.l (.l (.l (.r (.l (.r (.r (.r (.r (.r (.l .e))))))))))))
def q6099 : Pa := (.l (.l (.r (.l (.r (.l (.r (.r (.r (.r (.r (.l .e))))))))))))
def q6103 : Pa := (.l (.l (.l (.r (.r (.l (.r (.r (.r (.r (.r (.l .e))))))))))))
def q6107 : Pa := (.l (.l (.r (.r (.r (.l (.r (.r (.r (.r (.r (.l .e))))))))))))
def q6111 : Pa := (.l (.l (.l (.l (.l (.r (.r (.r (.r (.r (.r (.l .e))))))))))))
def q6115 : Pa := (.l (.l (.r (.l (.l (.r (.r (.r (.r (.r (.r (.l .e))))))))))))
def q6119 : Pa := (.l (.l (.l (.r (.l (.r (.r (.r (.r (.r (.r (.l .e))))))))))))
def q6123 : Pa := (.l (.l (.r (.r (.l (.r (.r (.r (.r (.r (.r (.l .e))))))))))))
def q6127 : Pa := (.l (.l (.l (.l (.r (.r (.r (.r (.r (.r (.r (.l .e))))))))))))
def q6131 : Pa := (.l (.l (.r (.l (.r (.r (.r (.r (.r (.r (.r (.l .e))))))))))))
def q6135 : Pa := (.l (.l (.l (.r (.r (.r (.r (.r (.r (.r (.r (.l .e))))))))))))
def q6139 : Pa := (.l (.l (.r (.r (.r (.r (.r (.r (.r (.r (.r (.l .e))))))))))))
def q6143 : Pa := (.l (.l (.l (.l (.l (.l (.l (.l (.l (.l (.l (.r .e))))))))))))
def q6147 : Pa := (.l (.l (.r (.l (.l (.l (.l (.l (.l (.l (.l (.r .e))))))))))))
def q6151 : Pa := (.l (.l (.l (.r (.l (.l (.l (.l (.l (.l (.l (.r .e))))))))))))
def q6155 : Pa := (.l (.l (.r (.r (.l (.l (.l (.l (.l (.l (.l (.r .e))))))))))))
def q6159 : Pa := (.l (.l (.l (.l (.r (.l (.l (.l (.l (.l (.l (.r .e))))))))))))
def q6163 : Pa := (.l (.l (.r (.l (.r (.l (.l (.l (.l (.l (.l (.r .e))))))))))))
def q6167 : Pa := (.l (.l (.l (.r (.r (.l (.l (.l (.l (.l (.l (.r .e))))))))))))
def q6171 : Pa := (.l (.l (.r (.r (.r (.l (.l (.l (.l (.l (.l (.r .e))))))))))))
def q6175 : Pa := (.l (.l (.l (.l (.l (.r (.l (.l (.l (.l (.l (.r .e))))))))))))
def q6179 : Pa := (.l (.l (.r (.l (.l (.r (.l (.l (.l (.l (.l (.r .e))))))))))))
def q6183 : Pa := (.l (.l (.l (.r (.l (.r (.l (.l (.l (.l (.l (.r .e))))))))))))
def q6187 : Pa := (.l (.l (.r (.r (.l (.r (.l (.l (.l (.l (.l (.r .e))))))))))))
def q6191 : Pa := (.l (.l (.l (.l (.r (.r (.l (.l (.l (.l (.l (.r .e))))))))))))
def q6195 : Pa := (.l (.l (.r (.l (.r (.r (.l (.l (.l (.l (.l (.r .e))))))))))))
def q6199 : Pa := (.l (.l (.l (.r (.r (.r (.l (.l (.l (.l (.l (.r .e))))))))))))
def q6203 : Pa := (.l (.l (.r (.r (.r (.r (.l (.l (.l (.l (.l (.r .e))))))))))))
def q6207 : Pa := (.l (.l (.l (.l (.l (.l (.r (.l (.l (.l (.l (.r .e))))))))))))
def q6211 : Pa := (.l (.l (.r (.l (.l (.l (.r (.l (.l (.l (.l (.r .e))))))))))))
def q6215 : Pa := (.l (.l (.l (.r (.l (.l (.r (.l (.l (.l (.l (.r .e))))))))))))
def q6219 : Pa := (.l (.l (.r (.r (.l (.l (.r (.l (.l (.l (.l (.r .e))))))))))))
def q6223 : Pa := (.l (.l (.l (.l (.r (.l (.r (.l (.l (.l (.l (.r .e))))))))))))
def q6227 : Pa := (.l (.l (.r (.l (.r (.l (.r (.l (.l (.l (.l (.r .e))))))))))))
def q6231 : Pa := (.l (.l (.l (.r (.r (.l (.r (.l (.l (.l (.l (.r .e))))))))))))
def q6235 : Pa := (.l (.l (.r (.r (.r (.l (.r (.l (.l (.l (.l (.r .e))))))))))))
def q6239 : Pa := (.l (.l (.l (.l (.l (.r (.r (.l (.l (.l (.l (.r .e))))))))))))
def q6243 : Pa := (.l (.l (.r (.l (.l (.r (.r (.l (.l (.l (.l (.r .e))))))))))))
def q6247 : Pa := (.l (.l (.l (.r (.l (.r (.r (.l (.l (.l (.l (.r .e))))))))))))
def q6251 : Pa := (.l (.l (.r (.r (.l (.r (.r (.l (.l (.l (.l (.r .e))))))))))))
def q6255 : Pa := (.l (.l (.l (.l (.r (.r (.r (.l (.l (.l (.l (.r .e))))))))))))
def q6259 : Pa := (.l (.l (.r (.l (.r (.r (.r (.l (.l (.l (.l (.r .e))))))))))))
def q6263 : Pa := (.l (.l (.l (.r (.r (.r (.r (.l (.l (.l (.l (.r .e))))))))))))
def q6267 : Pa := (.l (.l (.r (.r (.r (.r (.r (.l (.l (.l (.l (.r .e))))))))))))
def q6271 : Pa := (.l (.l (.l (.l (.l (.l (.l (.r (.l (.l (.l (.r .e))))))))))))
def q6275 : Pa := (.l (.l (.r (.l (.l (.l (.l (.r (.l (.l (.l (.r .e))))))))))))
def q6279 : Pa := (.l (.l (.l (.r (.l (.l (.l (.r (.l (.l (.l (.r .e))))))))))))
def q6283 : Pa := (.l (.l (.r (.r (.l (.l (.l (.r (.l (.l (.l (.r .e))))))))))))
def q6287 : Pa := (.l (.l (.l (.l (.r (.l (.l (.r (.l (.l (.l (.r .e))))))))))))
def q6291 : Pa := (.l (.l (.r (.l (.r (.l (.l (.r (.l (.l (.l (.r .e))))))))))))
def q6295 : Pa := (.l (.l (.l (.r (.r (.l (.l (.r (.l (.l (.l (.r .e))))))))))))
def q6299 : Pa := (.l (.l (.r (.r (.r (.l (.l (.r (.l (.l (.l (.r .e))))))))))))
def q6303 : Pa := (.l (.l (.l (.l (.l (.r (.l (.r (.l (.l (.l (.r .e))))))))))))
def q6307 : Pa := (.l (.l (.r (.l (.l (.r (.l (.r (.l (.l (.l (.r .e))))))))))))
def q6311 : Pa := (.l (.l (.l (.r (.l (.r (.l (.r (.l (.l (.l (.r .e))))))))))))
def q6315 : Pa := (.l (.l (.r (.r (.l (.r (.l (.r (.l (.l (.l (.r .e))))))))))))
def q6319 : Pa := (.l (.l (.l (.l (.r (.r (.l (.r (.l (.l (.l (.r .e))))))))))))
def q6323 : Pa := (.l (.l (.r (.l (.r (.r (.l (.r (.l (.l (.l (.r .e))))))))))))
def q6327 : Pa := (.l (.l (.l (.r (.r (.r (.l (.r (.l (.l (.l (.r .e))))))))))))
def q6331 : Pa := (.l (.l (.r (.r (.r (.r (.l (.r (.l (.l (.l (.r .e))))))))))))
def q6335 : Pa := (.l (.l (.l (.l (.l (.l (.r (.r (.l (.l (.l (.r .e))))))))))))
def q6339 : Pa := (.l (.l (.r (.l (.l (.l (.r (.r (.l (.l (.l (.r .e))))))))))))
def q6343 : Pa := (.l (.l (.l (.r (.l (.l (.r (.r (.l (.l (.l (.r .e))))))))))))
def q6347 : Pa := (.l (.l (.r (.r (.l (.l (.r (.r (.l (.l (.l (.r .e))))))))))))
def q6351 : Pa := (.l (.l (.l (.l (.r (.l (.r (.r (.l (.l (.l (.r .e))))))))))))
def q6355 : Pa := (.l (.l (.r (.l (.r (.l (.r (.r (.l (.l (.l (.r .e))))))))))))
def q6359 : Pa := (.l (.l (.l (.r (.r (.l (.r (.r (.l (.l (.l (.r .e))))))))))))
def q6363 : Pa := (.l (.l (.r (.r (.r (.l (.r (.r (.l (.l (.l (.r .e))))))))))))
def q6367 : Pa := (.l (.l (.l (.l (.l (.r (.r (.r (.l (.l (.l (.r .e))))))))))))
def q6371 : Pa := (.l (.l (.r (.l (.l (.r (.r (.r (.l (.l (.l (.r .e))))))))))))
def q6375 : Pa := (.l (.l (.l (.r (.l (.r (.r (.r (.l (.l (.l (.r .e))))))))))))
def q6379 : Pa := (.l (.l (.r (.r (.l (.r (.r (.r (.l (.l (.l (.r .e))))))))))))
def q6383 : Pa := (.l (.l (.l (.l (.r (.r (.r (.r (.l (.l (.l (.r .e))))))))))))
def q6387 : Pa := (.l (.l (.r (.l (.r (.r (.r (.r (.l (.l (.l (.r .e))))))))))))
def q6391 : Pa := (.l (.l (.l (.r (.r (.r (.r (.r (.l (.l (.l (.r .e))))))))))))
def q6395 : Pa := (.l (.l (.r (.r (.r (.r (.r (.r (.l (.l (.l (.r .e))))))))))))
def q6399 : Pa := (.l (.l (.l (.l (.l (.l (.l (.l (.r (.l (.l (.r .e))))))))))))
def q6403 : Pa := (.l (.l (.r (.l (.l (.l (.l (.l (.r (.l (.l (.r .e))))))))))))
def q6407 : Pa := (.l (.l (.l (.r (.l (.l (.l (.l (.r (.l (.l (.r .e))))))))))))
def q6411 : Pa := (.l (.l (.r (.r (.l (.l (.l (.l (.r (.l (.l (.r .e))))))))))))
def q6415 : Pa := (.l (.l (.l (.l (.r (.l (.l (.l (.r (.l (.l (.r .e))))))))))))
def q6419 : Pa := (.l (.l (.r (.l (.r (.l (.l (.l (.r (.l (.l (.r .e))))))))))))
def q6423 : Pa := (.l (.l (.l (.r (.r (.l (.l (.l (.r (.l (.l (.r .e))))))))))))
def q6427 : Pa := (.l (.l (.r (.r (.r (.l (.l (.l (.r (.l (.l (.r .e))))))))))))
def q6431 : Pa := (.l (.l (.l (.l (.l (.r (.l (.l (.r (.l (.l (.r .e))))))))))))
def q6435 : Pa := (.l (.l (.r (.l (.l (.r (.l (.l (.r (.l (.l (.r .e))))))))))))
def q6439 : Pa := (.l (.l (.l (.r (.l (.r (.l (.l (.r (.l (.l (.r .e))))))))))))
def q6443 : Pa := (.l (.l (.r (.r (.l (.r (.l (.l (.r (.l (.l (.r .e))))))))))))
def q6446 : Pa := (.r (.r (.r (.r (.l (.r (.l (.l (.r (.l (.l (.r .e))))))))))))
def q6447 : Pa := (.l (.l (.l (.l (.r (.r (.l (.l (.r (.l (.l (.r .e))))))))))))
def q6448 : Pa := (.r (.l (.l (.l (.r (.r (.l (.l (.r (.l (.l (.r .e))))))))))))
def w1 : SV := (.lit (.string ⟨#[40, 108, 111, 97, 100, 32, 49, 54, 32, 97, 58, 56, 41]⟩))
def w2 : SV := (.lit (.int .i64 (.ofNat 16)))
def w3 : SV := (.lit (.int .i64 (.ofNat 22)))
def w4 : SV := (.lit (.int .i64 (.ofNat 14)))
def w5 : SV := (.lit (.int .i64 (.ofNat 23)))
def w6 : SV := (.lit (.int .i64 (.ofNat 59)))
def w7 : SV := (.lit (.int .i64 (.ofNat 11)))
def w8 : SV := (.lit (.int .i64 (.ofNat 10)))
def w9 : SV := (.lit (.int .i64 (.ofNat 8)))
def w10 : SV := (.lit (.int .u64 (.ofNat 0)))
def w11 : SV := (.lit (.int .i64 (.ofNat 0)))
def w12 : SV := (.lit (.int .u8 (.ofNat 10)))
def w13 : SV := (.lit (.int .u8 (.ofNat 24)))
def w14 : SV := (.lit (.int .i64 (.ofNat 7)))
def w15 : SV := (.lit (.int .i64 (.ofNat 1)))
def w16 : SV := (.lit (.int .u8 (.ofNat 20)))
def w17 : SV := (.lit (.int .i64 (.ofNat 9)))
def w18 : SV := (.lit (.int .u64 (.ofNat 1)))
def w19 : SV := (.lit (.int .u8 (.ofNat 21)))
def w20 : SV := (.lit (.int .u8 (.ofNat 5)))
def w21 : SV := (.lit (.int .u8 (.ofNat 2)))
def w22 : SV := (.lit (.int .u8 (.ofNat 3)))
def w23 : SV := (.lit (.int .u8 (.ofNat 1)))
def w24 : SV := (.lit (.int .u8 (.ofNat 0)))
def w25 : SV := (.lit (.int .u8 (.ofNat 4)))
def w26 : SV := (.lit (.string ⟨#[122]⟩))
def w27 : SV := (.lit (.string ⟨#[97]⟩))
def w28 : SV := (.lit (.slice none 0 0))
def w29 : SV := (.lit (.string ⟨#[99]⟩))
def w30 : SV := (.lit (.string ⟨#[98]⟩))
def w31 : SV := (.lit (.string ⟨#[]⟩))
def w32 : SV := (.lit (.bool .false))
def w33 : SV := (.lit (.bool .true))
def w34 : SV := (.lit (.tuple #[]))
def w35 : SV := (.slc q5401 0 2 2 .false)
def w36 : SV := (.agg [w16, w17, w10, w31, w11, .any])
def w37 : SV := (.agg [w20, w9, w10, w31, w11, .any])
def w38 : SV := (.agg [w12, w9, w10, w31, w11, .any])
def w39 : SV := (.agg [w13, w2, w10, w31, w11, .any])
def w40 : SV := (.agg [w21, w15, w10, w29, w11, w28])
def w41 : SV := (.agg [w24, w11, w10, w31, w11, w28])
def w42 : SV := (.agg [w20, w9, w10, w31, w11, w35])
def w43 : SV := (.agg [w21, w9, w10, w27, w11, w28])
def w44 : SV := (.agg [w21, w9, w18, w27, w11, w28])
def w45 : SV := (.agg [w21, w9, w10, w30, w11, w28])
def w46 : SO := (.cells [w21, w9, w10, w26, w11, w28, w21, w9, w10, w26, w11, w28] 25 .true)
noncomputable def f (u3 : TypeId) (y3 : Value) (u4 : TypeId) (y4 : Value) : SF := (.mk (.mk 47 .normal none) (ovrT (.node w37 .nil .nil) [(q0, w42), (q1, w34), (q2, w34), (q3, w34), (q4, w34), (q5, w34), (q6, w34), (q7, w34), (q8, w34), (q9, w34), (q10, w34), (q11, w34), (q12, w34), (q13, w34), (q14, w34), (q15, w34), (q16, w34), (q17, w34), (q18, w34), (q19, w34), (q20, w34), (q21, w34), (q22, w34), (q23, w34), (q24, w34), (q25, w34), (q26, w34), (q27, w34), (q28, w34), (q29, w34), (q30, w34), (q31, w34), (q32, w34), (q33, w34), (q34, w34), (q35, w34), (q36, w34), (q37, w34), (q38, w34), (q39, w34), (q40, w34), (q41, w34), (q42, w34), (q43, w34), (q44, w34), (q45, w34), (q46, w34), (q47, w34), (q48, w34), (q49, w34), (q50, w34), (q51, w34), (q52, w34), (q53, w34), (q54, w34), (q55, w34), (q56, w34), (q57, w34), (q58, w34), (q59, w34), (q60, w34)]) [(.code (codeAt (bodyCode Go.Proofs.Tryz.f47) []))] [] .run)
noncomputable def cs (u3 : TypeId) (y3 : Value) (u4 : TypeId) (y4 : Value) : List SF := [(.mk (.mk 15 .normal none) (ovrT (.node w37 (.node .any .nil .nil) (.node w11 .nil (.node w37 .nil .nil))) [(q1, (.ptr q6447 0)), (q2, w11), (q3, w34), (q4, w34), (q5, w34), (q6, w42), (q7, w34), (q8, w34), (q9, w34), (q10, w34)]) [(.inReg (opsAt (codeAt (bodyCode Go.Proofs.Tryz.f15) [1, 0])) (((opsAt (codeAt (bodyCode Go.Proofs.Tryz.f15) [1, 0]))).toList.drop 1)), (.code (codeAt (bodyCode Go.Proofs.Tryz.f15) [1, 1]))] [] .run), (.mk (.mk 21 .normal none) (ovrT (.node w37 (.node w27 (.node .any (.node w11 (.node w37 (.node w9 .nil .nil) .nil) (.node w11 (.node w32 .nil .nil) .nil)) (.node w33 (.node w11 (.node w9 .nil .nil) .nil) (.node (.tup [w9, w33]) (.node w38 .nil .nil) .nil))) (.node .any (.node w11 (.node .any (.node w33 .nil .nil) .nil) (.node w34 (.node w37 .nil .nil) .nil)) (.node w34 (.node w38 (.node w9 .nil .nil) .nil) (.node w27 (.node w37 .nil .nil) .nil)))) (.node w38 (.node w34 (.node .any (.node (.tup [.any, w11]) (.node w33 .nil .nil) .nil) (.node w32 .nil .nil)) (.node .any (.node w33 (.node .any .nil .nil) .nil) (.node .any (.node w37 .nil .nil) .nil))) (.node .any (.node w9 (.node w11 (.node w33 .nil .nil) .nil) (.node w34 (.node w27 .nil .nil) .nil)) (.node (.tup [.any, w11]) (.node w11 (.node w32 .nil .nil) .nil) (.node (.tup [w9, w33]) .nil .nil))))) [(q6, (.ptr q3565 0)), (q7, w11), (q12, (.ptr q6446 0)), (q13, w34), (q45, w42), (q46, w34), (q47, w34), (q48, w34), (q49, w34), (q50, w34), (q51, w34)]) [(.inReg (opsAt (codeAt (bodyCode Go.Proofs.Tryz.f21) [1, 1, 1, 1, 1, 1, 0, 0])) (((opsAt (codeAt (bodyCode Go.Proofs.Tryz.f21) [1, 1, 1, 1, 1, 1, 0, 0]))).toList.drop 1)), (.code (codeAt (bodyCode Go.Proofs.Tryz.f21) [1, 1, 1, 1, 1, 1, 0, 1])), (.code (codeAt (bodyCode Go.Proofs.Tryz.f21) [1, 1, 1, 1, 1, 1, 1]))] [] .run), (.mk (.mk 3 .normal none) (ovrT (.node w32 (.node .any (.node .any (.node w11 (.node w9 (.node w10 (.node w43 (.node w39 (.node (.agg [w27, w14, w10]) .nil .nil) (.node w34 .nil .nil)) (.node (.agg [w13, (.lit (.int .i64 (.ofNat 24))), w10, w31, w11, .any]) (.node w43 .nil .nil) .nil)) (.node (.tup [w1, w11]) (.node (.agg [w22, w9, w10, w31, w11, .any]) (.node (.tup [w10, w9]) .nil .nil) (.node w34 .nil .nil)) (.node w43 (.node w34 .nil .nil) .nil))) (.node w34 (.node w43 (.node w32 (.node .any .nil .nil) (.node w34 .nil .nil)) (.node w3 (.node w34 .nil .nil) .nil)) (.node w39 (.node (.agg [(.lit (.int .u8 (.ofNat 19))), w9, w10, w31, w11, .any]) (.node w40 .nil .nil) (.node w34 .nil .nil)) (.node w43 (.node w34 .nil .nil) .nil)))) (.node w10 (.node .any (.node (.agg [(.lit (.int .u8 (.ofNat 19))), w9, w10, w31, w11, .any]) (.node w39 (.node .any .nil .nil) (.node w34 .nil .nil)) (.node .any (.node w34 .nil .nil) .nil)) (.node (.tup [w39, w11]) (.node w43 (.node (.agg [(.lit (.int .u64 (.ofNat 2))), w23]) .nil .nil) (.node w34 .nil .nil)) (.node w9 (.node w34 .nil .nil) .nil))) (.node (.agg [w21, (.lit (.int .i64 (.ofNat 32))), w10, (.lit (.string ⟨#[114, 46, 115, 112]⟩)), w11, w28]) (.node w39 (.node (.agg [w21, w9, w10, (.lit (.string ⟨#[120, 46, 121]⟩)), w11, w28]) (.node (.tup [w10, w9]) .nil .nil) (.node w34 .nil .nil)) (.node w32 (.node w34 .nil .nil) .nil)) (.node w11 (.node w43 (.node w36 .nil .nil) (.node w34 .nil .nil)) (.node w4 (.node w34 .nil .nil) .nil))))) (.node w5 (.node w10 (.node w10 (.node w40 (.node w32 (.node w4 .nil .nil) (.node w34 .nil .nil)) (.node w43 (.node w38 .nil .nil) .nil)) (.node w39 (.node w43 (.node (.tup [w10, w4]) .nil .nil) (.node w34 .nil .nil)) (.node w6 (.node w34 .nil .nil) .nil))) (.node w43 (.node .any (.node (.agg [w23, (.lit (.int .i64 (.ofNat 65))), w10, w31, w11, w28]) (.node (.tup [w10, w9]) .nil .nil) (.node w34 .nil .nil)) (.node .any (.node w34 .nil .nil) .nil)) (.node w11 (.node (.agg [w16, (.lit (.int .i64 (.ofNat 15))), w10, w31, w11, .any]) (.node (.tup [w41, w4]) .nil .nil) (.node w34 .nil .nil)) (.node (.tup [w28, w4]) (.node w34 .nil .nil) .nil)))) (.node w10 (.node w34 (.node (.agg [w16, w2, w10, w31, w11, .any]) (.node .any (.node (.tup [w10, w9]) .nil .nil) (.node w34 .nil .nil)) (.node w5 (.node w34 .nil .nil) .nil)) (.node w11 (.node w43 (.node w10 .nil .nil) (.node w34 .nil .nil)) (.node w38 (.node w34 .nil .nil) .nil))) (.node w43 (.node w7 (.node (.agg [w22, w14, w10, w31, w11, .any]) (.node (.tup [w10, w4]) .nil .nil) (.node w34 .nil .nil)) (.node w44 (.node w34 .nil .nil) .nil)) (.node w39 (.node .any (.node (.tup [w41, w4]) .nil .nil) (.node w34 .nil .nil)) (.node w10 (.node w34 .nil .nil) .nil)))))) (.node w7 (.node w11 (.node w28 (.node w10 (.node .any (.node w32 (.node (.tup [w10, w4]) .nil .nil) (.node w34 .nil .nil)) (.node .any (.node .any .nil .nil) .nil)) (.node w8 (.node .any (.node w9 .nil .nil) (.node w34 .nil .nil)) (.node w32 (.node w34 .nil .nil) .nil))) (.node w34 (.node (.agg [(.lit (.int .u8 (.ofNat 23))), (.lit (.int .i64 (.ofNat 64))), w10, w31, w11, .any]) (.node w41 (.node w10 .nil .nil) (.node w34 .nil .nil)) (.node .any (.node w34 .nil .nil) .nil)) (.node w32 (.node w45 (.node w41 .nil .nil) (.node w34 .nil .nil)) (.node .any (.node w34 .nil .nil) .nil)))) (.node w10 (.node w34 (.node w45 (.node .any (.node w10 .nil .nil) (.node w34 .nil .nil)) (.node w44 (.node w34 .nil .nil) .nil)) (.node (.tup [w39, w11]) (.node .any (.node .any .nil .nil) (.node w34 .nil .nil)) (.node w14 (.node w34 .nil .nil) .nil))) (.node .any (.node w7 (.node w43 (.node w9 .nil .nil) (.node w34 .nil .nil)) (.node w3 (.node w34 .nil .nil) .nil)) (.node w32 (.node (.agg [w19, (.lit (.int .i64 (.ofNat 4))), w10, w31, (.lit (.int .i64 (.negSucc 0))), .any]) (.node .any .nil .nil) (.node w34 .nil .nil)) (.node w43 (.node w34 .nil .nil) .nil))))) (.node .any (.node w10 (.node .any (.node w45 (.node w8 (.node w43 .nil .nil) (.node w34 .nil .nil)) (.node (.agg [w22, w9, w10, w31, w15, .any]) (.node w34 .nil .nil) .nil)) (.node w1 (.node .any (.node w4 .nil .nil) (.node w34 .nil .nil)) (.node .any (.node w34 .nil .nil) .nil))) (.node w40 (.node w43 (.node (.agg [w21, w9, w10, w31, w11, w28]) (.node (.agg [w18, w24]) .nil .nil) (.node w34 .nil .nil)) (.node w9 (.node w34 .nil .nil) .nil)) (.node w32 (.node .any (.node w40 .nil .nil) (.node w34 .nil .nil)) (.node (.tup [w28, w4]) (.node w34 .nil .nil) .nil)))) (.node w10 (.node w34 (.node .any (.node w13 (.node (.agg [w27, w9, w10]) .nil .nil) (.node w34 .nil .nil)) (.node w5 (.node w34 .nil .nil) .nil)) (.node w8 (.node w45 (.node (.tup [w41, w4]) .nil .nil) (.node w34 .nil .nil)) (.node .any (.node w34 .nil .nil) .nil))) (.node .any (.node w8 (.node w45 (.node w4 .nil .nil) (.node w34 .nil .nil)) (.node w32 (.node w34 .nil .nil) .nil)) (.node w8 (.node w43 (.node w4 .nil .nil) .nil) (.node (.tup [w10, w4]) (.node w34 .nil .nil) .nil))))))) (.node .any (.node .any (.node .any (.node .any (.node w9 (.node w45 (.node w33 (.node .any .nil .nil) (.node w34 .nil .nil)) (.node w43 (.node w43 .nil .nil) .nil)) (.node .any (.node w43 (.node w10 .nil .nil) (.node w34 .nil .nil)) (.node w6 (.node w34 .nil .nil) .nil))) (.node w34 (.node .any (.node w32 (.node (.tup [w10, w9]) .nil .nil) (.node w34 .nil .nil)) (.node w5 (.node w34 .nil .nil) .nil)) (.node w11 (.node w43 (.node (.tup [w41, w4]) .nil .nil) (.node w34 .nil .nil)) (.node (.agg [w21, w15, w10, w27, w11, w28]) (.node w34 .nil .nil) .nil)))) (.node w9 (.node w4 (.node w43 (.node w32 (.node (.tup [w10, w9]) .nil .nil) (.node w34 .nil .nil)) (.node (.agg [w22, w9, w10, w27, w11, .any]) (.node w34 .nil .nil) .nil)) (.node w1 (.node w40 (.node (.agg [(.lit (.int .u64 (.ofNat 2))), w23]) .nil .nil) (.node w34 .nil .nil)) (.node w32 (.node w34 .nil .nil) .nil))) (.node w43 (.node .any (.node (.agg [w21, w11, w10, w27, w11, w28]) (.node w10 .nil .nil) (.node w34 .nil .nil)) (.node .any (.node w34 .nil .nil) .nil)) (.node w32 (.node .any (.node (.agg [w21, (.lit (.int .i64 (.ofNat 2))), w10, w29, w11, w28]) .nil .nil) (.node w34 .nil .nil)) (.node (.tup [w10, w2]) (.node w34 .nil .nil) .nil))))) (.node .any (.node w2 (.node w9 (.node w43 (.node .any (.node (.tup [w10, w9]) .nil .nil) (.node w34 .nil .nil)) (.node .any (.node w34 .nil .nil) .nil)) (.node (.tup [w1, w11]) (.node w45 (.node w10 .nil .nil) (.node w34 .nil .nil)) (.node (.agg [w25, w9, w10, w31, w11, .any]) (.node w34 .nil .nil) .nil))) (.node w45 (.node (.agg [(.lit (.int .u8 (.ofNat 22))), w9, w10, w31, w11, .any]) (.node (.agg [w23, w9, (.lit (.int .u64 (.ofNat 256))), w31, w11, w28]) (.node w43 .nil .nil) (.node w34 .nil .nil)) (.node w44 (.node w34 .nil .nil) .nil)) (.node w32 (.node w43 (.node w43 .nil .nil) (.node w34 .nil .nil)) (.node w36 (.node w34 .nil .nil) .nil)))) (.node w9 (.node w34 (.node w43 (.node .any (.node w43 .nil .nil) (.node w34 .nil .nil)) (.node .any (.node w34 .nil .nil) .nil)) (.node .any (.node w43 (.node w9 .nil .nil) (.node w34 .nil .nil)) (.node w38 (.node w34 .nil .nil) .nil))) (.node w45 (.node w32 (.node w43 (.node w10 .nil .nil) (.node w34 .nil .nil)) (.node w32 (.node w34 .nil .nil) .nil)) (.node .any (.node (.agg [(.lit (.int .u8 (.ofNat 22))), w14, w10, w31, w11, .any]) (.node w41 .nil .nil) (.node w34 .nil .nil)) (.node w2 (.node w34 .nil .nil) .nil)))))) (.node w1 (.node .any (.node w4 (.node w4 (.node (.agg [(.lit (.int .u8 (.ofNat 18))), w15, w10, w31, w11, .any]) (.node w32 (.node w10 .nil .nil) (.node w34 .nil .nil)) (.node (.agg [(.lit (.int .u8 (.ofNat 25))), w9, w10, w31, w11, .any]) (.node w37 .nil .nil) .nil)) (.node .any (.node w37 (.node (.tup [w10, w4]) .nil .nil) (.node w34 .nil .nil)) (.node (.lit (.int .i64 (.ofNat 58))) (.node w34 .nil .nil) .nil))) (.node w34 (.node w43 (.node (.agg [w23, w11, w10, w31, w11, w28]) (.node w9 .nil .nil) (.node w34 .nil .nil)) (.node w3 (.node w34 .nil .nil) .nil)) (.node w32 (.node .any (.node w4 .nil .nil) (.node w34 .nil .nil)) (.node w36 (.node w34 .nil .nil) .nil)))) (.node w9 (.node w34 (.node .any (.node w8 (.node w9 .nil .nil) (.node w34 .nil .nil)) (.node .any (.node w34 .nil .nil) .nil)) (.node w39 (.node (.agg [(.lit (.int .u8 (.ofNat 17))), w15, w10, w31, w11, .any]) (.node (.tup [w10, w9]) .nil .nil) (.node w34 .nil .nil)) (.node w9 (.node w34 .nil .nil) .nil))) (.node (.agg [w22, w9, w10, w31, w11, .any]) (.node .any (.node .any (.node (.tup [w10, w4]) .nil .nil) (.node w34 .nil .nil)) (.node .any (.node w34 .nil .nil) .nil)) (.node w32 (.node w43 (.node (.agg [(.lit (.int .u8 (.ofNat 23))), w9, w10, w31, w11, .any]) .nil .nil) (.node w34 .nil .nil)) (.node (.tup [w10, w2]) (.node w34 .nil .nil) .nil))))) (.node w6 (.node w4 (.node w4 (.node .any (.node .any (.node (.agg [w27, w14, (.lit (.int .u64 (.ofNat 128)))]) .nil .nil) (.node w34 .nil .nil)) (.node w43 (.node w34 .nil .nil) .nil)) (.node w11 (.node (.agg [(.lit (.int .u8 (.ofNat 16))), w9, w10, w31, w11, .any]) (.node (.tup [w10, w9]) .nil .nil) (.node w34 .nil .nil)) (.node (.agg [w25, w9, w10, w31, w11, .any]) (.node w34 .nil .nil) .nil))) (.node (.agg [w23, (.lit (.int .i64 (.ofNat 64))), (.lit (.int .u64 (.ofNat 18446744073709551615))), w31, w11, w28]) (.node .any (.node (.agg [w21, w9, w10, (.lit (.string ⟨#[114, 46]⟩)), w11, w28]) (.node .any .nil .nil) (.node w34 .nil .nil)) (.node w32 (.node w34 .nil .nil) .nil)) (.node w32 (.node (.agg [w19, (.lit (.int .i64 (.ofNat 4))), w10, w31, (.lit (.int .i64 (.ofNat 5))), .any]) (.node .any .nil .nil) (.node w34 .nil .nil)) (.node w28 (.node w34 .nil .nil) .nil)))) (.node w4 (.node w34 (.node (.agg [w19, (.lit (.int .i64 (.ofNat 3))), w10, w31, (.lit (.int .i64 (.ofNat 5))), .any]) (.node w32 (.node (.agg [w27, w9, w10]) .nil .nil) (.node w34 .nil .nil)) (.node w32 (.node w34 .nil .nil) .nil)) (.node .any (.node .any (.node w43 .nil .nil) (.node w34 .nil .nil)) (.node w38 (.node w34 .nil .nil) .nil))) (.node (.agg [(.lit (.int .u8 (.ofNat 13))), w9, w10, w31, w11, .any]) (.node w7 (.node .any (.node (.tup [w10, w9]) .nil .nil) (.node w34 .nil .nil)) (.node w43 (.node w34 .nil .nil) .nil)) (.node .any (.node .any (.node w34 .nil .nil) .nil) (.node w43 (.node w34 .nil .nil) .nil)))))))) [(q0, w32), (q1, (.ptr q3 0)), (q3, (.ptr q5 0)), (q12, (.ptr q3027 0)), (q13, (.ptr q3028 0)), (q16, (.ptr q3163 0)), (q18, w4), (q20, w2), (q22, w4), (q24, w9), (q26, w9), (q28, w9), (q30, w4), (q32, w9), (q34, w4), (q36, w9), (q38, w4), (q40, w4), (q41, w34), (q42, w34), (q43, w34), (q44, w34), (q45, w34), (q46, w34), (q48, w34), (q49, w34), (q50, w34), (q318, w34), (q319, w43), (q320, w43), (q321, (.slc q3544 0 2 2 .true)), (q322, (.agg [w20, w9, w10, w31, w11, (.slc q3544 0 2 2 .true)])), (q323, (.agg [w12, w9, w10, w31, w11, (.slc q3561 0 2 2 .true)])), (q324, w34), (q325, w34), (q326, w34), (q327, w34), (q328, w34), (q329, w34), (q330, w34), (q331, w34), (q332, w34), (q333, w34), (q334, w34), (q335, w34), (q336, w34), (q337, w34), (q338, w34), (q339, w34), (q340, w34), (q341, w34), (q342, w34), (q343, w34), (q344, w34), (q345, w34), (q346, w34), (q347, w34), (q348, w34), (q349, w34), (q350, w34), (q351, w34), (q352, w34), (q353, w34), (q354, w34), (q355, w34), (q356, w34), (q357, w34), (q358, w34), (q359, w34), (q360, w34), (q361, w34), (q362, w34), (q363, w34), (q364, w34), (q365, w34), (q366, w34), (q367, w34), (q368, w34), (q369, w34), (q370, w34), (q371, w34), (q372, w34), (q373, w34), (q374, w34), (q375, w34), (q376, w34), (q377, w34), (q378, w34), (q379, w34), (q380, w34), (q381, w34), (q382, w34), (q383, w34), (q384, w34), (q385, w34), (q386, w34), (q387, w34), (q388, w34), (q389, w34), (q390, w34), (q391, w34), (q392, w34), (q393, w34), (q394, w34), (q395, w34), (q396, w34), (q397, w34), (q398, w34), (q399, w34), (q400, w34), (q401, w34), (q402, w34), (q403, w34), (q404, w34), (q405, w34), (q406, w34), (q407, w34), (q408, w34), (q409, w34), (q410, w34), (q411, w34), (q412, w34), (q413, w34), (q414, w34), (q415, w34), (q416, w34), (q417, w34), (q418, w34), (q419, w34), (q420, w34), (q421, w34), (q422, w34), (q423, w34), (q424, w34), (q425, w34), (q426, w34), (q427, w34), (q428, w34), (q429, w34), (q430, w34), (q431, w34), (q432, w34), (q433, w34), (q434, w34), (q435, w34), (q436, w34), (q437, w34), (q438, w34), (q439, w34), (q440, w34), (q441, w34), (q442, w34), (q443, w34), (q444, w34)]) [(.inReg (opsAt (codeAt (bodyCode Go.Proofs.Tryz.f3) [1, 1, 1, 1, 1, 1, 1, 1, 1, 1, 1, 1, 1, 1, 1, 1, 1, 1, 1, 1, 1, 1, 0])) (((opsAt (codeAt (bodyCode Go.Proofs.Tryz.f3) [1, 1, 1, 1, 1, 1, 1, 1, 1, 1, 1, 1, 1, 1, 1, 1, 1, 1, 1, 1, 1, 1, 0]))).toList.drop 5)), (.code (codeAt (bodyCode Go.Proofs.Tryz.f3) [1, 1, 1, 1, 1, 1, 1, 1, 1, 1, 1, 1, 1, 1, 1, 1, 1, 1, 1, 1, 1, 1, 1]))] [] .run)]
noncomputable def h (u3 : TypeId) (y3 : Value) (u4 : TypeId) (y4 : Value) : H := (mkHeap q6448 [(q6447, (.cells [w20, w9, w10, w31, w11, w35] 25 .true)),
  (q3565, (.cells [w24, w11, w10, w31, w11, w28] 25 .true)),
  (q6446, (.cells [w20, w9, w10, w31, w11, w35] 25 .true)),
  (q5921, w46),
  (q5917, w46),
  (q5913, (.cells [w12, w9, w10, w31, w11, (.slc q5921 0 2 2 .false), w12, w9, w10, w31, w11, (.slc q5917 0 2 2 .false)] 25 .true)),
  (q5909, w46),
  (q5905, w46),
  (q5901, (.cells [w12, w9, w10, w31, w11, (.slc q5909 0 2 2 .false), w12, w9, w10, w31, w11, (.slc q5905 0 2 2 .false)] 25 .true)),
  (q5897, (.cells [w12, w9, w10, w31, w11, (.slc q5913 0 2 2 .false), w12, w9, w10, w31, w11, (.slc q5901 0 2 2 .false)] 25 .true)),
  (q5893, w46),
  (q5889, w46),
  (q5885, (.cells [w12, w9, w10, w31, w11, (.slc q5893 0 2 2 .false), w12, w9, w10, w31, w11, (.slc q5889 0 2 2 .false)] 25 .true)),
  (q5881, w46),
  (q5877, w46),
  (q5873, (.cells [w12, w9, w10, w31, w11, (.slc q5881 0 2 2 .false), w12, w9, w10, w31, w11, (.slc q5877 0 2 2 .false)] 25 .true)),
  (q5869, (.cells [w12, w9, w10, w31, w11, (.slc q5885 0 2 2 .false), w12, w9, w10, w31, w11, (.slc q5873 0 2 2 .false)] 25 .true)),
  (q5865, (.cells [w12, w9, w10, w31, w11, (.slc q5897 0 2 2 .false), w12, w9, w10, w31, w11, (.slc q5869 0 2 2 .false)] 25 .true)),
  (q5861, w46),
  (q5857, w46),
  (q5853, (.cells [w12, w9, w10, w31, w11, (.slc q5861 0 2 2 .false), w12, w9, w10, w31, w11, (.slc q5857 0 2 2 .false)] 25 .true)),
  (q5849, w46),
  (q5845, w46),
  (q5841, (.cells [w12, w9, w10, w31, w11, (.slc q5849 0 2 2 .false), w12, w9, w10, w31, w11, (.slc q5845 0 2 2 .false)] 25 .true)),
  (q5837, (.cells [w12, w9, w10, w31, w11, (.slc q5853 0 2 2 .false), w12, w9, w10, w31, w11, (.slc q5841 0 2 2 .false)] 25 .true)),
  (q5833, w46),
  (q5829, w46),
  (q5825, (.cells [w12, w9, w10, w31, w11, (.slc q5833 0 2 2 .false), w12, w9, w10, w31, w11, (.slc q5829 0 2 2 .false)] 25 .true)),
  (q5821, w46),
  (q5817, w46),
  (q5813, (.cells [w12, w9, w10, w31, w11, (.slc q5821 0 2 2 .false), w12, w9, w10, w31, w11, (.slc q5817 0 2 2 .false)] 25 .true)),
  (q5809, (.cells [w12, w9, w10, w31, w11, (.slc q5825 0 2 2 .false), w12, w9, w10, w31, w11, (.slc q5813 0 2 2 .false)] 25 .true)),
  (q5805, (.cells [w12, w9, w10, w31, w11, (.slc q5837 0 2 2 .false), w12, w9, w10, w31, w11, (.slc q5809 0 2 2 .false)] 25 .true)),
  (q5801, (.cells [w12, w9, w10, w31, w11, (.slc q5865 0 2 2 .false), w12, w9, w10, w31, w11, (.slc q5805 0 2 2 .false)] 25 .true)),
  (q5797, w46),
  (q5793, w46),
  (q5789, (.cells [w12, w9, w10, w31, w11, (.slc q5797 0 2 2 .false), w12, w9, w10, w31, w11, (.slc q5793 0 2 2 .false)] 25 .true)),
  (q5785, w46),
  (q5781, w46),
  (q5777, (.cells [w12, w9, w10, w31, w11, (.slc q5785 0 2 2 .false), w12, w9, w10, w31, w11, (.slc q5781 0 2 2 .false)] 25 .true)),
  (q5773, (.cells [w12, w9, w10, w31, w11, (.slc q5789 0 2 2 .false), w12, w9, w10, w31, w11, (.slc q5777 0 2 2 .false)] 25 .true)),
  (q5769, w46),
  (q5765, w46),
  (q5761, (.cells [w12, w9, w10, w31, w11, (.slc q5769 0 2 2 .false), w12, w9, w10, w31, w11, (.slc q5765 0 2 2 .false)] 25 .true)),
  (q5757, w46),
  (q5753, w46),
  (q5749, (.cells [w12, w9, w10, w31, w11, (.slc q5757 0 2 2 .false), w12, w9, w10, w31, w11, (.slc q5753 0 2 2 .false)] 25 .true)),
  (q5745, (.cells [w12, w9, w10, w31, w11, (.slc q5761 0 2 2 .false), w12, w9, w10, w31, w11, (.slc q5749 0 2 2 .false)] 25 .true)),
  (q5741, (.cells [w12, w9, w10, w31, w11, (.slc q5773 0 2 2 .false), w12, w9, w10, w31, w11, (.slc q5745 0 2 2 .false)] 25 .true)),
  (q5737, w46),
  (q5733, w46),
  (q5729, (.cells [w12, w9, w10, w31, w11, (.slc q5737 0 2 2 .false), w12, w9, w10, w31, w11, (.slc q5733 0 2 2 .false)] 25 .true)),
  (q5725, w46),
  (q5721, w46),
  (q5717, (.cells [w12, w9, w10, w31, w11, (.slc q5725 0 2 2 .false), w12, w9, w10, w31, w11, (.slc q5721 0 2 2 .false)] 25 .true)),
  (q5713, (.cells [w12, w9, w10, w31, w11, (.slc q5729 0 2 2 .false), w12, w9, w10, w31, w11, (.slc q5717 0 2 2 .false)] 25 .true)),
  (q5709, w46),
  (q5705, w46),
  (q5701, (.cells [w12, w9, w10, w31, w11, (.slc q5709 0 2 2 .false), w12, w9, w10, w31, w11, (.slc q5705 0 2 2 .false)] 25 .true)),
  (q5697, w46),
  (q5693, w46),
  (q5689, (.cells [w12, w9, w10, w31, w11, (.slc q5697 0 2 2 .false), w12, w9, w10, w31, w11, (.slc q5693 0 2 2 .false)] 25 .true)),
  (q5685, (.cells [w12, w9, w10, w31, w11, (.slc q5701 0 2 2 .false), w12, w9, w10, w31, w11, (.slc q5689 0 2 2 .false)] 25 .true)),
  (q5681, (.cells [w12, w9, w10, w31, w11, (.slc q5713 0 2 2 .false), w12, w9, w10, w31, w11, (.slc q5685 0 2 2 .false)] 25 .true)),
  (q5677, (.cells [w12, w9, w10, w31, w11, (.slc q5741 0 2 2 .false), w12, w9, w10, w31, w11, (.slc q5681 0 2 2 .false)] 25 .true)),
  (q5673, (.cells [w12, w9, w10, w31, w11, (.slc q5801 0 2 2 .false), w12, w9, w10, w31, w11, (.slc q5677 0 2 2 .false)] 25 .true)),
  (q5669, w46),
  (q5665, w46),
  (q5661, (.cells [w12, w9, w10, w31, w11, (.slc q5669 0 2 2 .false), w12, w9, w10, w31, w11, (.slc q5665 0 2 2 .false)] 25 .true)),
  (q5657, w46),
  (q5653, w46),
  (q5649, (.cells [w12, w9, w10, w31, w11, (.slc q5657 0 2 2 .false), w12, w9, w10, w31, w11, (.slc q5653 0 2 2 .false)] 25 .true)),
  (q5645, (.cells [w12, w9, w10, w31, w11, (.slc q5661 0 2 2 .false), w12, w9, w10, w31, w11, (.slc q5649 0 2 2 .false)] 25 .true)),
  (q5641, w46),
  (q5637, w46),
  (q5633, (.cells [w12, w9, w10, w31, w11, (.slc q5641 0 2 2 .false), w12, w9, w10, w31, w11, (.slc q5637 0 2 2 .false)] 25 .true)),
  (q5629, w46),
  (q5625, w46),
  (q5621, (.cells [w12, w9, w10, w31, w11, (.slc q5629 0 2 2 .false), w12, w9, w10, w31, w11, (.slc q5625 0 2 2 .false)] 25 .true)),
  (q5617, (.cells [w12, w9, w10, w31, w11, (.slc q5633 0 2 2 .false), w12, w9, w10, w31, w11, (.slc q5621 0 2 2 .false)] 25 .true)),
  (q5613, (.cells [w12, w9, w10, w31, w11, (.slc q5645 0 2 2 .false), w12, w9, w10, w31, w11, (.slc q5617 0 2 2 .false)] 25 .true)),
  (q5609, w46),
  (q5605, w46),
  (q5601, (.cells [w12, w9, w10, w31, w11, (.slc q5609 0 2 2 .false), w12, w9, w10, w31, w11, (.slc q5605 0 2 2 .false)] 25 .true)),
  (q5597, w46),
  (q5593, w46),
  (q5589, (.cells [w12, w9, w10, w31, w11, (.slc q5597 0 2 2 .false), w12, w9, w10, w31, w11, (.slc q5593 0 2 2 .false)] 25 .true)),
  (q5585, (.cells [w12, w9, w10, w31, w11, (.slc q5601 0 2 2 .false), w12, w9, w10, w31, w11, (.slc q5589 0 2 2 .false)] 25 .true)),
  (q5581, w46),
  (q5577, w46),
  (q5573, (.cells [w12, w9, w10, w31, w11, (.slc q5581 0 2 2 .false), w12, w9, w10, w31, w11, (.slc q5577 0 2 2 .false)] 25 .true)),
  (q5569, w46),
  (q5565, w46),
  (q5561, (.cells [w12, w9, w10, w31, w11, (.slc q5569 0 2 2 .false), w12, w9, w10, w31, w11, (.slc q5565 0 2 2 .false)] 25 .true)),
  (q5557, (.cells [w12, w9, w10, w31, w11, (.slc q5573 0 2 2 .false), w12, w9, w10, w31, w11, (.slc q5561 0 2 2 .false)] 25 .true)),
  (q5553, (.cells [w12, w9, w10, w31, w11, (.slc q5585 0 2 2 .false), w12, w9, w10, w31, w11, (.slc q5557 0 2 2 .false)] 25 .true)),
  (q5549, (.cells [w12, w9, w10, w31, w11, (.slc q5613 0 2 2 .false), w12, w9, w10, w31, w11, (.slc q5553 0 2 2 .false)] 25 .true)),
  (q5545, w46),
  (q5541, w46),
  (q5537, (.cells [w12, w9, w10, w31, w11, (.slc q5545 0 2 2 .false), w12, w9, w10, w31, w11, (.slc q5541 0 2 2 .false)] 25 .true)),
  (q5533, w46),
  (q5529, w46),
  (q5525, (.cells [w12, w9, w10, w31, w11, (.slc q5533 0 2 2 .false), w12, w9, w10, w31, w11, (.slc q5529 0 2 2 .false)] 25 .true)),
  (q5521, (.cells [w12, w9, w10, w31, w11, (.slc q5537 0 2 2 .false), w12, w9, w10, w31, w11, (.slc q5525 0 2 2 .false)] 25 .true)),
  (q5517, w46),
  (q5513, w46),
  (q5509, (.cells [w12, w9, w10, w31, w11, (.slc q5517 0 2 2 .false), w12, w9, w10, w31, w11, (.slc q5513 0 2 2 .false)] 25 .true)),
  (q5505, w46),
  (q5501, w46),
  (q5497, (.cells [w12, w9, w10, w31, w11, (.slc q5505 0 2 2 .false), w12, w9, w10, w31, w11, (.slc q5501 0 2 2 .false)] 25 .true)),
  (q5493, (.cells [w12, w9, w10, w31, w11, (.slc q5509 0 2 2 .false), w12, w9, w10, w31, w11, (.slc q5497 0 2 2 .false)] 25 .true)),
  (q5489, (.cells [w12, w9, w10, w31, w11, (.slc q5521 0 2 2 .false), w12, w9, w10, w31, w11, (.slc q5493 0 2 2 .false)] 25 .true)),
  (q5485, w46),
  (q5481, w46),
  (q5477, (.cells [w12, w9, w10, w31, w11, (.slc q5485 0 2 2 .false), w12, w9, w10, w31, w11, (.slc q5481 0 2 2 .false)] 25 .true)),
  (q5473, w46),
  (q5469, w46),
  (q5465, (.cells [w12, w9, w10, w31, w11, (.slc q5473 0 2 2 .false), w12, w9, w10, w31, w11, (.slc q5469 0 2 2 .false)] 25 .true)),
  (q5461, (.cells [w12, w9, w10, w31, w11, (.slc q5477 0 2 2 .false), w12, w9, w10, w31, w11, (.slc q5465 0 2 2 .false)] 25 .true)),
  (q5457, w46),
  (q5453, w46),
  (q5449, (.cells [w12, w9, w10, w31, w11, (.slc q5457 0 2 2 .false), w12, w9, w10, w31, w11, (.slc q5453 0 2 2 .false)] 25 .true)),
  (q5445, w46),
  (q5440, w46),
  (q5435, (.cells [w12, w9, w10, w31, w11, (.slc q5445 0 2 2 .false), w12, w9, w10, w31, w11, (.slc q5440 0 2 2 .false)] 25 .true)),
  (q5430, (.cells [w12, w9, w10, w31, w11, (.slc q5449 0 2 2 .false), w12, w9, w10, w31, w11, (.slc q5435 0 2 2 .false)] 25 .true)),
  (q5425, (.cells [w12, w9, w10, w31, w11, (.slc q5461 0 2 2 .false), w12, w9, w10, w31, w11, (.slc q5430 0 2 2 .false)] 25 .true)),
  (q5420, (.cells [w12, w9, w10, w31, w11, (.slc q5489 0 2 2 .false), w12, w9, w10, w31, w11, (.slc q5425 0 2 2 .false)] 25 .true)),
  (q5415, (.cells [w12, w9, w10, w31, w11, (.slc q5549 0 2 2 .false), w12, w9, w10, w31, w11, (.slc q5420 0 2 2 .false)] 25 .true)),
  (q5410, (.cells [w12, w9, w10, w31, w11, (.slc q5673 0 2 2 .false), w12, w9, w10, w31, w11, (.slc q5415 0 2 2 .false)] 25 .true)),
  (q6443, w46),
  (q6439, w46),
  (q6435, (.cells [w12, w9, w10, w31, w11, (.slc q6443 0 2 2 .false), w12, w9, w10, w31, w11, (.slc q6439 0 2 2 .false)] 25 .true)),
  (q6431, w46),
  (q6427, w46),
  (q6423, (.cells [w12, w9, w10, w31, w11, (.slc q6431 0 2 2 .false), w12, w9, w10, w31, w11, (.slc q6427 0 2 2 .false)] 25 .true)),
  (q6419, (.cells [w12, w9, w10, w31, w11, (.slc q6435 0 2 2 .false), w12, w9, w10, w31, w11, (.slc q6423 0 2 2 .false)] 25 .true)),
  (q6415, w46),
  (q6411, w46),
  (q6407, (.cells [w12, w9, w10, w31, w11, (.slc q6415 0 2 2 .false), w12, w9, w10, w31, w11, (.slc q6411 0 2 2 .false)] 25 .true)),
  (q6403, w46),
  (q6399, w46),
  (q6395, (.cells [w12, w9, w10, w31, w11, (.slc q6403 0 2 2 .false), w12, w9, w10, w31, w11, (.slc q6399 0 2 2 .false)] 25 .true)),
  (q6391, (.cells [w12, w9, w10, w31, w11, (.slc q6407 0 2 2 .false), w12, w9, w10, w31, w11, (.slc q6395 0 2 2 .false)] 25 .true)),
  (q6387, (.cells [w12, w9, w10, w31, w11, (.slc q6419 0 2 2 .false), w12, w9, w10, w31, w11, (.slc q6391 0 2 2 .false)] 25 .true)),
  (q6383, w46),
  (q6379, w46),
  (q6375, (.cells [w12, w9, w10, w31, w11, (.slc q6383 0 2 2 .false), w12, w9, w10, w31, w11, (.slc q6379 0 2 2 .false)] 25 .true)),
  (q6371, w46),
  (q6367, w46),
  (q6363, (.cells [w12, w9, w10, w31, w11, (.slc q6371 0 2 2 .false), w12, w9, w10, w31, w11, (.slc q6367 0 2 2 .false)] 25 .true)),
  (q6359, (.cells [w12, w9, w10, w31, w11, (.slc q6375 0 2 2 .false), w12, w9, w10, w31, w11, (.slc q6363 0 2 2 .false)] 25 .true)),
  (q6355, w46),
  (q6351, w46),
  (q6347, (.cells [w12, w9, w10, w31, w11, (.slc q6355 0 2 2 .false), w12, w9, w10, w31, w11, (.slc q6351 0 2 2 .false)] 25 .true)),
  (q6343, w46),
  (q6339, w46),
  (q6335, (.cells [w12, w9, w10, w31, w11, (.slc q6343 0 2 2 .false), w12, w9, w10, w31, w11, (.slc q6339 0 2 2 .false)] 25 .true)),
  (q6331, (.cells [w12, w9, w10, w31, w11, (.slc q6347 0 2 2 .false), w12, w9, w10, w31, w11, (.slc q6335 0 2 2 .false)] 25 .true)),
  (q6327, (.cells [w12, w9, w10, w31, w11, (.slc q6359 0 2 2 .false), w12, w9, w10, w31, w11, (.slc q6331 0 2 2 .false)] 25 .true)),
  (q6323, (.cells [w12, w9, w10, w31, w11, (.slc q6387 0 2 2 .false), w12, w9, w10, w31, w11, (.slc q6327 0 2 2 .false)] 25 .true)),
  (q6319, w46),
  (q6315, w46),
  (q6311, (.cells [w12, w9, w10, w31, w11, (.slc q6319 0 2 2 .false), w12, w9, w10, w31, w11, (.slc q6315 0 2 2 .false)] 25 .true)),
  (q6307, w46),
  (q6303, w46),
  (q6299, (.cells [w12, w9, w10, w31, w11, (.slc q6307 0 2 2 .false), w12, w9, w10, w31, w11, (.slc q6303 0 2 2 .false)] 25 .true)),
  (q6295, (.cells [w12, w9, w10, w31, w11, (.slc q6311 0 2 2 .false), w12, w9, w10, w31, w11, (.slc q6299 0 2 2 .false)] 25 .true)),
  (q6291, w46),
  (q6287, w46),
  (q6283, (.cells [w12, w9, w10, w31, w11, (.slc q6291 0 2 2 .false), w12, w9, w10, w31, w11, (.slc q6287 0 2 2 .false)] 25 .true)),
  (q6279, w46),
  (q6275, w46),
  (q6271, (.cells [w12, w9, w10, w31, w11, (.slc q6279 0 2 2 .false), w12, w9, w10, w31, w11, (.slc q6275 0 2 2 .false)] 25 .true)),
  (q6267, (.cells [w12, w9, w10, w31, w11, (.slc q6283 0 2 2 .false), w12, w9, w10, w31, w11, (.slc q6271 0 2 2 .false)] 25 .true)),
  (q6263, (.cells [w12, w9, w10, w31, w11, (.slc q6295 0 2 2 .false), w12, w9, w10, w31, w11, (.slc q6267 0 2 2 .false)] 25 .true)),
  (q6259, w46),
  (q6255, w46),
  (q6251, (.cells [w12, w9, w10, w31, w11, (.slc q6259 0 2 2 .false), w12, w9, w10, w31, w11, (.slc q6255 0 2 2 .false)] 25 .true)),
  (q6247, w46),
  (q6243, w46),
  (q6239, (.cells [w12, w9, w10, w31, w11, (.slc q6247 0 2 2 .false), w12, w9, w10, w31, w11, (.slc q6243 0 2 2 .false)] 25 .true)),
  (q6235, (.cells [w12, w9, w10, w31, w11, (.slc q6251 0 2 2 .false), w12, w9, w10, w31, w11, (.slc q6239 0 2 2 .false)] 25 .true)),
  (q6231, w46),
  (q6227, w46),
  (q6223, (.cells [w12, w9, w10, w31, w11, (.slc q6231 0 2 2 .false), w12, w9, w10, w31, w11, (.slc q6227 0 2 2 .false)] 25 .true)),
  (q6219, w46),
  (q6215, w46),
  (q6211, (.cells [w12, w9, w10, w31, w11, (.slc q6219 0 2 2 .false), w12, w9, w10, w31, w11, (.slc q6215 0 2 2 .false)] 25 .true)),
  (q6207, (.cells [w12, w9, w10, w31, w11, (.slc q6223 0 2 2 .false), w12, w9, w10, w31, w11, (.slc q6211 0 2 2 .false)] 25 .true)),
  (q6203, (.cells [w12, w9, w10, w31, w11, (.slc q6235 0 2 2 .false), w12, w9, w10, w31, w11, (.slc q6207 0 2 2 .false)] 25 .true)),
  (q6199, (.cells [w12, w9, w10, w31, w11, (.slc q6263 0 2 2 .false), w12, w9, w10, w31, w11, (.slc q6203 0 2 2 .false)] 25 .true)),
  (q6195, (.cells [w12, w9, w10, w31, w11, (.slc q6323 0 2 2 .false), w12, w9, w10, w31, w11, (.slc q6199 0 2 2 .false)] 25 .true)),
  (q6191, w46),
  (q6187, w46),
  (q6183, (.cells [w12, w9, w10, w31, w11, (.slc q6191 0 2 2 .false), w12, w9, w10, w31, w11, (.slc q6187 0 2 2 .false)] 25 .true)),
  (q6179, w46),
  (q6175, w46),
  (q6171, (.cells [w12, w9, w10, w31, w11, (.slc q6179 0 2 2 .false), w12, w9, w10, w31, w11, (.slc q6175 0 2 2 .false)] 25 .true)),
  (q6167, (.cells [w12, w9, w10, w31, w11, (.slc q6183 0 2 2 .false), w12, w9, w10, w31, w11, (.slc q6171 0 2 2 .false)] 25 .true)),
  (q6163, w46),
  (q6159, w46),
  (q6155, (.cells [w12, w9, w10, w31, w11, (.slc q6163 0 2 2 .false), w12, w9, w10, w31, w11, (.slc q6159 0 2 2 .false)] 25 .true)),
  (q6151, w46),
  (q6147, w46),
  (q6143, (.cells [w12, w9, w10, w31, w11, (.slc q6151 0 2 2 .false), w12, w9, w10, w31, w11, (.slc q6147 0 2 2 .false)] 25 .true)),
  (q6139, (.cells [w12, w9, w10, w31, w11, (.slc q6155 0 2 2 .false), w12, w9, w10, w31, w11, (.slc q6143 0 2 2 .false)] 25 .true)),
  (q6135, (.cells [w12, w9, w10, w31, w11, (.slc q6167 0 2 2 .false), w12, w9, w10, w31, w11, (.slc q6139 0 2 2 .false)] 25 .true)),
  (q6131, w46),
  (q6127, w46),
  (q6123, (.cells [w12, w9, w10, w31, w11, (.slc q6131 0 2 2 .false), w12, w9, w10, w31, w11, (.slc q6127 0 2 2 .false)] 25 .true)),
  (q6119, w46),
  (q6115, w46),
  (q6111, (.cells [w12, w9, w10, w31, w11, (.slc q6119 0 2 2 .false), w12, w9, w10, w31, w11, (.slc q6115 0 2 2 .false)] 25 .true)),
  (q6107, (.cells [w12, w9, w10, w31, w11, (.slc q6123 0 2 2 .false), w12, w9, w10, w31, w11, (.slc q6111 0 2 2 .false)] 25 .true)),
  (q6103, w46),
  (q6099, w46),
  (q6095, (.cells [w12, w9, w10, w31, w11, (.slc q6103 0 2 2 .false), w12, w9, w10, w31, w11, (.slc q6099 0 2 2 .false)] 25 .true)),
  (q6091, w46),
  (q6087, w46),
  (q6083, (.cells [w12, w9, w10, w31, w11, (.slc q6091 0 2 2 .false), w12, w9, w10, w31, w11, (.slc q6087 0 2 2 .false)] 25 .true)),
  (q6079, (.cells [w12, w9, w10, w31, w11, (.slc q6095 0 2 2 .false), w12, w9, w10, w31, w11, (.slc q6083 0 2 2 .false)] 25 .true)),
  (q6075, (.cells [w12, w9, w10, w31, w11, (.slc q6107 0 2 2 .false), w12, w9, w10, w31, w11, (.slc q6079 0 2 2 .false)] 25 .true)),
  (q6071, (.cells [w12, w9, w10, w31, w11, (.slc q6135 0 2 2 .false), w12, w9, w10, w31, w11, (.slc q6075 0 2 2 .false)] 25 .true)),
  (q6067, w46),
  (q6063, w46),
  (q6059, (.cells [w12, w9, w10, w31, w11, (.slc q6067 0 2 2 .false), w12, w9, w10, w31, w11, (.slc q6063 0 2 2 .false)] 25 .true)),
  (q6055, w46),
  (q6051, w46),
  (q6047, (.cells [w12, w9, w10, w31, w11, (.slc q6055 0 2 2 .false), w12, w9, w10, w31, w11, (.slc q6051 0 2 2 .false)] 25 .true)),
  (q6043, (.cells [w12, w9, w10, w31, w11, (.slc q6059 0 2 2 .false), w12, w9, w10, w31, w11, (.slc q6047 0 2 2 .false)] 25 .true)),
  (q6039, w46),
  (q6035, w46),
  (q6031, (.cells [w12, w9, w10, w31, w11, (.slc q6039 0 2 2 .false), w12, w9, w10, w31, w11, (.slc q6035 0 2 2 .false)] 25 .true)),
  (q6027, w46),
  (q6023, w46),
  (q6019, (.cells [w12, w9, w10, w31, w11, (.slc q6027 0 2 2 .false), w12, w9, w10, w31, w11, (.slc q6023 0 2 2 .false)] 25 .true)),
  (q6015, (.cells [w12, w9, w10, w31, w11, (.slc q6031 0 2 2 .false), w12, w9, w10, w31, w11, (.slc q6019 0 2 2 .false)] 25 .true)),
  (q6011, (.cells [w12, w9, w10, w31, w11, (.slc q6043 0 2 2 .false), w12, w9, w10, w31, w11, (.slc q6015 0 2 2 .false)] 25 .true)),
  (q6007, w46),
  (q6003, w46),
  (q5999, (.cells [w12, w9, w10, w31, w11, (.slc q6007 0 2 2 .false), w12, w9, w10, w31, w11, (.slc q6003 0 2 2 .false)] 25 .true)),
  (q5995, w46),
  (q5991, w46),
  (q5987, (.cells [w12, w9, w10, w31, w11, (.slc q5995 0 2 2 .false), w12, w9, w10, w31, w11, (.slc q5991 0 2 2 .false)] 25 .true)),
  (q5983, (.cells [w12, w9, w10, w31, w11, (.slc q5999 0 2 2 .false), w12, w9, w10, w31, w11, (.slc q5987 0 2 2 .false)] 25 .true)),
  (q5979, w46),
  (q5975, w46),
  (q5971, (.cells [w12, w9, w10, w31, w11, (.slc q5979 0 2 2 .false), w12, w9, w10, w31, w11, (.slc q5975 0 2 2 .false)] 25 .true)),
  (q5967, w46),
  (q5962, w46),
  (q5957, (.cells [w12, w9, w10, w31, w11, (.slc q5967 0 2 2 .false), w12, w9, w10, w31, w11, (.slc q5962 0 2 2 .false)] 25 .true)),
  (q5952, (.cells [w12, w9, w10, w31, w11, (.slc q5971 0 2 2 .false), w12, w9, w10, w31, w11, (.slc q5957 0 2 2 .false)] 25 .true)),
  (q5947, (.cells [w12, w9, w10, w31, w11, (.slc q5983 0 2 2 .false), w12, w9, w10, w31, w11, (.slc q5952 0 2 2 .false)] 25 .true)),
  (q5942, (.cells [w12, w9, w10, w31, w11, (.slc q6011 0 2 2 .false), w12, w9, w10, w31, w11, (.slc q5947 0 2 2 .false)] 25 .true)),
  (q5937, (.cells [w12, w9, w10, w31, w11, (.slc q6071 0 2 2 .false), w12, w9, w10, w31, w11, (.slc q5942 0 2 2 .false)] 25 .true)),
  (q5932, (.cells [w12, w9, w10, w31, w11, (.slc q6195 0 2 2 .false), w12, w9, w10, w31, w11, (.slc q5937 0 2 2 .false)] 25 .true)),
  (q5401, (.cells [w12, w9, w10, w31, w11, (.slc q5410 0 2 2 .false), w12, w9, w10, w31, w11, (.slc q5932 0 2 2 .false)] 25 .true)),
  (q3, (.cells [w21, w9, w10, w27, w11, w28] 25 .true)),
  (q5, (.cells [w21, w15, w10, w29, w11, w28] 25 .true)),
  (q3029, (.cells [w21, w9, w10, w27, w11, w28] 25 .true)),
  (q3031, (.cells [w25, w9, w10, w31, w11, (.slc q3029 0 1 1 .true)] 25 .true)),
  (q3033, (.cells [w25, w9, w10, w31, w11, (.slc q3031 0 1 1 .true)] 25 .true)),
  (q3035, (.cells [w25, w9, w10, w31, w11, (.slc q3033 0 1 1 .true)] 25 .true)),
  (q3037, (.cells [w25, w9, w10, w31, w11, (.slc q3035 0 1 1 .true)] 25 .true)),
  (q3039, (.cells [w25, w9, w10, w31, w11, (.slc q3037 0 1 1 .true)] 25 .true)),
  (q3041, (.cells [w25, w9, w10, w31, w11, (.slc q3039 0 1 1 .true)] 25 .true)),
  (q3043, (.cells [w25, w9, w10, w31, w11, (.slc q3041 0 1 1 .true)] 25 .true)),
  (q3045, (.cells [w25, w9, w10, w31, w11, (.slc q3043 0 1 1 .true)] 25 .true)),
  (q3047, (.cells [w25, w9, w10, w31, w11, (.slc q3045 0 1 1 .true)] 25 .true)),
  (q3049, (.cells [w25, w9, w10, w31, w11, (.slc q3047 0 1 1 .true)] 25 .true)),
  (q3051, (.cells [w25, w9, w10, w31, w11, (.slc q3049 0 1 1 .true)] 25 .true)),
  (q3053, (.cells [w25, w9, w10, w31, w11, (.slc q3051 0 1 1 .true)] 25 .true)),
  (q3055, (.cells [w25, w9, w10, w31, w11, (.slc q3053 0 1 1 .true)] 25 .true)),
  (q3057, (.cells [w25, w9, w10, w31, w11, (.slc q3055 0 1 1 .true)] 25 .true)),
  (q3059, (.cells [w25, w9, w10, w31, w11, (.slc q3057 0 1 1 .true)] 25 .true)),
  (q3061, (.cells [w25, w9, w10, w31, w11, (.slc q3059 0 1 1 .true)] 25 .true)),
  (q3063, (.cells [w25, w9, w10, w31, w11, (.slc q3061 0 1 1 .true)] 25 .true)),
  (q3065, (.cells [w25, w9, w10, w31, w11, (.slc q3063 0 1 1 .true)] 25 .true)),
  (q3067, (.cells [w25, w9, w10, w31, w11, (.slc q3065 0 1 1 .true)] 25 .true)),
  (q3069, (.cells [w25, w9, w10, w31, w11, (.slc q3067 0 1 1 .true)] 25 .true)),
  (q3071, (.cells [w25, w9, w10, w31, w11, (.slc q3069 0 1 1 .true)] 25 .true)),
  (q3073, (.cells [w25, w9, w10, w31, w11, (.slc q3071 0 1 1 .true)] 25 .true)),
  (q3075, (.cells [w25, w9, w10, w31, w11, (.slc q3073 0 1 1 .true)] 25 .true)),
  (q3077, (.cells [w25, w9, w10, w31, w11, (.slc q3075 0 1 1 .true)] 25 .true)),
  (q3079, (.cells [w25, w9, w10, w31, w11, (.slc q3077 0 1 1 .true)] 25 .true)),
  (q3081, (.cells [w25, w9, w10, w31, w11, (.slc q3079 0 1 1 .true)] 25 .true)),
  (q3083, (.cells [w25, w9, w10, w31, w11, (.slc q3081 0 1 1 .true)] 25 .true)),
  (q3085, (.cells [w25, w9, w10, w31, w11, (.slc q3083 0 1 1 .true)] 25 .true)),
  (q3087, (.cells [w25, w9, w10, w31, w11, (.slc q3085 0 1 1 .true)] 25 .true)),
  (q3089, (.cells [w25, w9, w10, w31, w11, (.slc q3087 0 1 1 .true)] 25 .true)),
  (q3091, (.cells [w25, w9, w10, w31, w11, (.slc q3089 0 1 1 .true)] 25 .true)),
  (q3093, (.cells [w25, w9, w10, w31, w11, (.slc q3091 0 1 1 .true)] 25 .true)),
  (q3095, (.cells [w25, w9, w10, w31, w11, (.slc q3093 0 1 1 .true)] 25 .true)),
  (q3097, (.cells [w25, w9, w10, w31, w11, (.slc q3095 0 1 1 .true)] 25 .true)),
  (q3099, (.cells [w25, w9, w10, w31, w11, (.slc q3097 0 1 1 .true)] 25 .true)),
  (q3101, (.cells [w25, w9, w10, w31, w11, (.slc q3099 0 1 1 .true)] 25 .true)),
  (q3103, (.cells [w25, w9, w10, w31, w11, (.slc q3101 0 1 1 .true)] 25 .true)),
  (q3105, (.cells [w25, w9, w10, w31, w11, (.slc q3103 0 1 1 .true)] 25 .true)),
  (q3107, (.cells [w25, w9, w10, w31, w11, (.slc q3105 0 1 1 .true)] 25 .true)),
  (q3109, (.cells [w25, w9, w10, w31, w11, (.slc q3107 0 1 1 .true)] 25 .true)),
  (q3111, (.cells [w25, w9, w10, w31, w11, (.slc q3109 0 1 1 .true)] 25 .true)),
  (q3113, (.cells [w25, w9, w10, w31, w11, (.slc q3111 0 1 1 .true)] 25 .true)),
  (q3115, (.cells [w25, w9, w10, w31, w11, (.slc q3113 0 1 1 .true)] 25 .true)),
  (q3117, (.cells [w25, w9, w10, w31, w11, (.slc q3115 0 1 1 .true)] 25 .true)),
  (q3119, (.cells [w25, w9, w10, w31, w11, (.slc q3117 0 1 1 .true)] 25 .true)),
  (q3121, (.cells [w25, w9, w10, w31, w11, (.slc q3119 0 1 1 .true)] 25 .true)),
  (q3123, (.cells [w25, w9, w10, w31, w11, (.slc q3121 0 1 1 .true)] 25 .true)),
  (q3125, (.cells [w25, w9, w10, w31, w11, (.slc q3123 0 1 1 .true)] 25 .true)),
  (q3127, (.cells [w25, w9, w10, w31, w11, (.slc q3125 0 1 1 .true)] 25 .true)),
  (q3129, (.cells [w25, w9, w10, w31, w11, (.slc q3127 0 1 1 .true)] 25 .true)),
  (q3131, (.cells [w25, w9, w10, w31, w11, (.slc q3129 0 1 1 .true)] 25 .true)),
  (q3133, (.cells [w25, w9, w10, w31, w11, (.slc q3131 0 1 1 .true)] 25 .true)),
  (q3135, (.cells [w25, w9, w10, w31, w11, (.slc q3133 0 1 1 .true)] 25 .true)),
  (q3137, (.cells [w25, w9, w10, w31, w11, (.slc q3135 0 1 1 .true)] 25 .true)),
  (q3139, (.cells [w25, w9, w10, w31, w11, (.slc q3137 0 1 1 .true)] 25 .true)),
  (q3141, (.cells [w25, w9, w10, w31, w11, (.slc q3139 0 1 1 .true)] 25 .true)),
  (q3143, (.cells [w25, w9, w10, w31, w11, (.slc q3141 0 1 1 .true)] 25 .true)),
  (q3145, (.cells [w25, w9, w10, w31, w11, (.slc q3143 0 1 1 .true)] 25 .true)),
  (q3027, (.cells [w25, w9, w10, w31, w11, (.slc q3145 0 1 1 .true)] 25 .true)),
  (q3147, (.cells [w21, w9, w10, w27, w11, w28, w21, w9, w10, w27, w11, w28] 25 .true)),
  (q3149, (.cells [w12, w9, w10, w31, w11, (.slc q3147 0 2 2 .true), w12, w9, w10, w31, w11, (.slc q3147 0 2 2 .true)] 25 .true)),
  (q3151, (.cells [w12, w9, w10, w31, w11, (.slc q3149 0 2 2 .true), w12, w9, w10, w31, w11, (.slc q3149 0 2 2 .true)] 25 .true)),
  (q3153, (.cells [w12, w9, w10, w31, w11, (.slc q3151 0 2 2 .true), w12, w9, w10, w31, w11, (.slc q3151 0 2 2 .true)] 25 .true)),
  (q3155, (.cells [w12, w9, w10, w31, w11, (.slc q3153 0 2 2 .true), w12, w9, w10, w31, w11, (.slc q3153 0 2 2 .true)] 25 .true)),
  (q3157, (.cells [w12, w9, w10, w31, w11, (.slc q3155 0 2 2 .true), w12, w9, w10, w31, w11, (.slc q3155 0 2 2 .true)] 25 .true)),
  (q3159, (.cells [w12, w9, w10, w31, w11, (.slc q3157 0 2 2 .true), w12, w9, w10, w31, w11, (.slc q3157 0 2 2 .true)] 25 .true)),
  (q3161, (.cells [w12, w9, w10, w31, w11, (.slc q3159 0 2 2 .true), w12, w9, w10, w31, w11, (.slc q3159 0 2 2 .true)] 25 .true)),
  (q3028, (.cells [w12, w9, w10, w31, w11, (.slc q3161 0 2 2 .true)] 25 .true)),
  (q3165, (.cells [w21, w9, w10, w27, w11, w28, w21, w15, w10, w27, w11, w28] 25 .true)),
  (q3163, (.cells [w16, w17, w10, w31, w11, (.slc q3165 0 2 2 .true)] 25 .true)),
  (q3544, (.cells [w21, w9, w10, w27, w11, w28, w21, w9, w10, w27, w11, w28] 25 .true)),
  (q3549, w46),
  (q3551, (.cells [w12, w9, w10, w31, w11, (.slc q3549 0 2 2 .true), w12, w9, w10, w31, w11, (.slc q3549 0 2 2 .true)] 25 .true)),
  (q3553, (.cells [w12, w9, w10, w31, w11, (.slc q3551 0 2 2 .true), w12, w9, w10, w31, w11, (.slc q3551 0 2 2 .true)] 25 .true)),
  (q3555, (.cells [w12, w9, w10, w31, w11, (.slc q3553 0 2 2 .true), w12, w9, w10, w31, w11, (.slc q3553 0 2 2 .true)] 25 .true)),
  (q3557, (.cells [w12, w9, w10, w31, w11, (.slc q3555 0 2 2 .true), w12, w9, w10, w31, w11, (.slc q3555 0 2 2 .true)] 25 .true)),
  (q3559, (.cells [w12, w9, w10, w31, w11, (.slc q3557 0 2 2 .true), w12, w9, w10, w31, w11, (.slc q3557 0 2 2 .true)] 25 .true)),
  (q3561, (.cells [w12, w9, w10, w31, w11, (.slc q3559 0 2 2 .true), w12, w9, w10, w31, w11, (.slc q3559 0 2 2 .true)] 25 .true))])
def keep : List Pa := [q0, q1, q2, q3, q4, q5, q6, q7, q8, q9, q10, q11, q12, q13, q14, q15, q16, q17, q18, q19, q20, q21, q22, q23, q24, q25, q26, q27, q28, q29, q30, q31, q32, q33, q34, q35, q36, q37, q38, q39, q40, q41, q42, q43, q44, q45, q46, q47, q48, q49, q50, q51, q52, q53, q54, q55, q56, q57, q58, q59, q60]
def keeps : List (List Pa) := [[q1, q2, q3, q4, q5, q6, q7, q8, q9, q10], [q6, q7, q12, q13, q45, q46, q47, q48, q49, q50, q51], [q0, q1, q3, q12, q13, q16, q18, q20, q22, q24, q26, q28, q30, q32, q34, q36, q38, q40, q41, q42, q43, q44, q45, q46, q48, q49, q50, q318, q319, q320, q321, q322, q323, q324, q325, q326, q327, q328, q329, q330, q331, q332, q333, q334, q335, q336, q337, q338, q339, q340, q341, q342, q343, q344, q345, q346, q347, q348, q349, q350, q351, q352, q353, q354, q355, q356, q357, q358, q359, q360, q361, q362, q363, q364, q365, q366, q367, q368, q369, q370, q371, q372, q373, q374, q375, q376, q377, q378, q379, q380, q381, q382, q383, q384, q385, q386, q387, q388, q389, q390, q391, q392, q393, q394, q395, q396, q397, q398, q399, q400, q401, q402, q403, q404, q405, q406, q407, q408, q409, q410, q411, q412, q413, q414, q415, q416, q417, q418, q419, q420, q421, q422, q423, q424, q425, q426, q427, q428, q429, q430, q431, q432, q433, q434, q435, q436, q437, q438, q439, q440, q441, q442, q443, q444]]
def objs : List Pa := [q6447, q3565, q6446, q5921, q5917, q5913, q5909, q5905, q5901, q5897, q5893, q5889, q5885, q5881, q5877, q5873, q5869, q5865, q5861, q5857, q5853, q5849, q5845, q5841, q5837, q5833, q5829, q5825, q5821, q5817, q5813, q5809, q5805, q5801, q5797, q5793, q5789, q5785, q5781, q5777, q5773, q5769, q5765, q5761, q5757, q5753, q5749, q5745, q5741, q5737, q5733, q5729, q5725, q5721, q5717, q5713, q5709, q5705, q5701, q5697, q5693, q5689, q5685, q5681, q5677, q5673, q5669, q5665, q5661, q5657, q5653, q5649, q5645, q5641, q5637, q5633, q5629, q5625, q5621, q5617, q5613, q5609, q5605, q5601, q5597, q5593, q5589, q5585, q5581, q5577, q5573, q5569, q5565, q5561, q5557, q5553, q5549, q5545, q5541, q5537, q5533, q5529, q5525, q5521, q5517, q5513, q5509, q5505, q5501, q5497, q5493, q5489, q5485, q5481, q5477, q5473, q5469, q5465, q5461, q5457, q5453, q5449, q5445, q5440, q5435, q5430, q5425, q5420, q5415, q5410, q6443, q6439, q6435, q6431, q6427, q6423, q6419, q6415, q6411, q6407, q6403, q6399, q6395, q6391, q6387, q6383, q6379, q6375, q6371, q6367, q6363, q6359, q6355, q6351, q6347, q6343, q6339, q6335, q6331, q6327, q6323, q6319, q6315, q6311, q6307, q6303, q6299, q6295, q6291, q6287, q6283, q6279, q6275, q6271, q6267, q6263, q6259, q6255, q6251, q6247, q6243, q6239, q6235, q6231, q6227, q6223, q6219, q6215, q6211, q6207, q6203, q6199, q6195, q6191, q6187, q6183, q6179, q6175, q6171, q6167, q6163, q6159, q6155, q6151, q6147, q6143, q6139, q6135, q6131, q6127, q6123, q6119, q6115, q6111, q6107, q6103, q6099, q6095, q6091, q6087, q6083, q6079, q6075, q6071, q6067, q6063, q6059, q6055, q6051, q6047, q6043, q6039, q6035, q6031, q6027, q6023, q6019, q6015, q6011, q6007, q6003, q5999, q5995, q5991, q5987, q5983, q5979, q5975, q5971, q5967, q5962, q5957, q5952, q5947, q5942, q5937, q5932, q5401, q3, q5, q3029, q3031, q3033, q3035, q3037, q3039, q3041, q3043, q3045, q3047, q3049, q3051, q3053, q3055, q3057, q3059, q3061, q3063, q3065, q3067, q3069, q3071, q3073, q3075, q3077, q3079, q3081, q3083, q3085, q3087, q3089, q3091, q3093, q3095, q3097, q3099, q3101, q3103, q3105, q3107, q3109, q3111, q3113, q3115, q3117, q3119, q3121, q3123, q3125, q3127, q3129, q3131, q3133, q3135, q3137, q3139, q3141, q3143, q3145, q3027, q3147, q3149, q3151, q3153, q3155, q3157, q3159, q3161, q3028, q3165, q3163, q3544, q3549, q3551, q3553, q3555, q3557, q3559, q3561]
end s3

end Go.Proofs.YteoegpkfdbcklaaGreatDoor.termNames
