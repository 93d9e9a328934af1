import Derived.Test.YtkhmhmopcofejaaQK
import Derived.Test.YtkhmhmopcofejaaQL
import Derived.Test.YtkhmhmopcofejaaPG
/- The program meets what the laws ask of it. -/
namespace Go.Proofs.Ytkhmhmopcofejaa
open Go.RowKit Go.Sort

theorem kit10 : Kit10 where
  may u wo tq po co ko cw ct cp cc ck r hr hf hw W hU hC := mayU_is u wo tq po co ko cw ct cp cc ck r hr hf hw.some hC.2.2.2.2.2 W hU
  encode u wo tq po co ko cw ct cp cc ck hf hw W hU hC := (encode_is u wo tq po co ko cw ct cp cc ck hf hw.some W hU hC).mono fun e w' h => by
    rcases h with h | ⟨h1, h2, h3⟩
    · exact .inl h
    · exact .inr ⟨h1, none, 0, h2, h3⟩
  decode ao c l hl W hS hC := decode_is ao c l hl W hS hC
  alive W := aliveP_is W
  prefix_ ao c l p hl h0 h1 W hS hC := prefixP_is ao c l p hl h0 h1 W hS hC
end Go.Proofs.Ytkhmhmopcofejaa
