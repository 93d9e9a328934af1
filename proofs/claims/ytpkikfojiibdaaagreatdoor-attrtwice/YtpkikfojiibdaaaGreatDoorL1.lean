import Derived.Test.YtpkikfojiibdaaaGreatDoorM2
import Derived.Test.YtpkikfojiibdaaaGreatDoorE4
import Derived.Test.YtpkikfojiibdaaaGreatDoorCA7
/- What the laws ask of the program; the law's example; sums. -/
namespace Go.Proofs.YtpkikfojiibdaaaGreatDoor
open Go.RowKit

/-- A change. -/
structure St where
  pf : Int
  md : Int
  og : Int
  add : List Cm.Co.C
  del : List Cm.Co.C
  clr : Bool
  pre : List Int
def St.lies (w : World) (s : St) (ao dl pr : Option Addr) : Prop := Cm.Co.slot w ao s.add ∧ Cm.Co.slot w dl s.del ∧ Is.slot w pr s.pre
theorem St.lies_below {w w' : World} {s : St} {ao dl pr : Option Addr} (h : St.lies w s ao dl pr) (hb : Below w.heap.size w w') : St.lies w' s ao dl pr :=
  ⟨Cm.Co.slot_below h.1 hb, Cm.Co.slot_below h.2.1 hb, Is.slot_below h.2.2 hb⟩
/-- Slices that came in, or were made: nil has no room. -/
def At.came (a : At) (po co ko : Option Addr) (cp cc ck : Nat) : Prop := Cm.Co.came po cp ∧ Cm.Co.came co cc ∧ Cm.Co.came ko ck ∧ a.cl.length ≤ ck
/-- A change may be. -/
def St.ok (s : St) : Bool := decide (-1 ≤ s.pf ∧ s.pf ≤ 1048576 ∧ -1 ≤ s.md ∧ s.md ≤ 1048576 ∧ -1 ≤ s.og ∧ s.og ≤ 2) && (decide (s.add.length ≤ 8) && (decide (s.del.length ≤ 8) && (!(s.add.any fun c => !Cm.Co.may c) && (!(s.del.any fun c => !Cm.Co.may c) && Is.may s.pre))))
def At.zero : At := ⟨0, 0, 0, [], [], 0, []⟩
def At.plain : At := ⟨100, 0, 0, [], [], 0, []⟩
/-- What communities are left ahead of those that are added. -/
def At.left (a : At) (s : St) : List Cm.Co.C := (if s.clr = true then [] else a.comms).filter fun c => !Cm.Co.inL s.del c
def At.told (s a : Int) : Int := if s = -1 then a else s
/-- What a change makes of attributes, and why not. -/
def At.DoTo (a : At) (s : St) (r : At) (q : Int) : Prop :=
  if At.may a = true ∧ St.ok s = true then ∃ x, Cm.Co.uni (At.left a s) s.add x ∧
    ((8 < x.length ∨ 16 < s.pre.length + a.path.length) ∧ r = At.zero ∧ q = 2 ∨ (x.length ≤ 8 ∧ s.pre.length + a.path.length ≤ 16) ∧ r = ⟨At.told s.pf a.pf, At.told s.md a.md, At.told s.og a.og, s.pre ++ a.path, x, a.fr, a.cl⟩ ∧ q = 0)
  else r = At.zero ∧ q = 1
/-- Cells from B on that may be written. -/
def Wr (B : Nat) (w : World) (o : Option Addr) (n : Nat) : Prop := n = 0 ∨ ∃ g off, o = some ⟨g, off, none⟩ ∧ B ≤ g ∧ ∀ j, j < n → (w.cell? ⟨g, off + j, none⟩).isSome = true ∧ w.frozen? ⟨g, off + j, none⟩ = false
/-- Attributes whose lists are new memory. -/
def At.mine (B : Nat) (w : World) (a : At) (po co ko : Option Addr) : Prop := At.lies w a po co ko ∧ Wr B w po a.path.length ∧ Wr B w co (a.comms.length * 2) ∧ Wr B w ko a.cl.length
/-- What a change hands back. -/
def DoGood (w : World) (a : At) (s : St) (e : Ending) (w' : World) : Prop :=
  ∃ (r : At) (q : Int) (po co ko : Option Addr) (cp cc ck : Nat), e = .returned (.tuple #[.agg #[.int .i64 r.pf, .int .i64 r.md, .int .i64 r.og, .slice po r.path.length cp, .slice co r.comms.length cc, .int .i64 r.fr, .slice ko r.cl.length ck], .int .i64 q]) ∧ At.DoTo a s r q ∧ At.mine w.heap.size w' r po co ko ∧ At.came r po co ko cp cc ck ∧ Below w.heap.size w w'
/-- What a copy is. -/
def CopyGood (w : World) (r : At) (e : Ending) (w' : World) : Prop :=
  ∃ (po co ko : Option Addr) (cp cc ck : Nat), e = .returned (.agg #[.int .i64 r.pf, .int .i64 r.md, .int .i64 r.og, .slice po r.path.length cp, .slice co r.comms.length cc, .int .i64 r.fr, .slice ko r.cl.length ck]) ∧ At.mine w.heap.size w' r po co ko ∧ At.came r po co ko cp cc ck ∧ Below w.heap.size w w'
/-- The change that changes nothing. -/
def NoneGood (w : World) (e : Ending) (w' : World) : Prop :=
  ∃ (ao dl pr : Option Addr) (ca cd cr : Nat), e = .returned (.agg #[.int .i64 (-1), .int .i64 (-1), .int .i64 (-1), .slice ao 0 ca, .slice dl 0 cd, .bool false, .slice pr 0 cr]) ∧ (Cm.Co.came ao ca ∧ Cm.Co.came dl cd ∧ Cm.Co.came pr cr) ∧ Below w.heap.size w w'
def Plus (a b : Int) : Int × Int := if 0 ≤ a ∧ 0 ≤ b ∧ a + b ≤ 1099511627776 then (a + b, 0) else (0, 7)
/-- The contracts that the laws ask of the program. -/
structure Kit (T : World → Prop) : Prop where
  on : ∀ {w w' : World}, T w → Below w.heap.size w w' → T w'
  may : ∀ (a : At) (po co ko : Option Addr) (cp cc ck : Nat) (r : Bool), At.may a = r → ∀ W, T W → At.lies W a po co ko → a.path.length ≤ 100 → a.comms.length ≤ 100 → a.cl.length ≤ 100 → a.cl.length ≤ ck → Calls Tryz.prog 14 #[.agg #[.int .i64 a.pf, .int .i64 a.md, .int .i64 a.og, .slice po a.path.length cp, .slice co a.comms.length cc, .int .i64 a.fr, .slice ko a.cl.length ck]] W fun e w' => e = .returned (.bool r) ∧ Below W.heap.size W w'
  text : ∀ (a : At) (po co ko : Option Addr) (cp cc ck : Nat) (t : ByteArray), t = ⟨(At.text a).toArray⟩ → ∀ W, T W → At.lies W a po co ko → a.path.length ≤ 100 → a.comms.length ≤ 100 → a.cl.length ≤ 100 → a.cl.length ≤ ck → Calls Tryz.prog 17 #[.agg #[.int .i64 a.pf, .int .i64 a.md, .int .i64 a.og, .slice po a.path.length cp, .slice co a.comms.length cc, .int .i64 a.fr, .slice ko a.cl.length ck]] W fun e w' => e = .returned (.string t) ∧ Below W.heap.size W w'
  compare : ∀ (a b : At) (po co ko : Option Addr) (cp cc ck : Nat) (po' co' ko' : Option Addr) (cp' cc' ck' : Nat) (r : Int), At.cmp a b = r → ∀ W, T W → At.lies W a po co ko → At.lies W b po' co' ko' → a.path.length ≤ 100 → a.comms.length ≤ 100 → a.cl.length ≤ 100 → b.path.length ≤ 100 → b.comms.length ≤ 100 → b.cl.length ≤ 100 → Calls Tryz.prog 39 #[.agg #[.int .i64 a.pf, .int .i64 a.md, .int .i64 a.og, .slice po a.path.length cp, .slice co a.comms.length cc, .int .i64 a.fr, .slice ko a.cl.length ck], .agg #[.int .i64 b.pf, .int .i64 b.md, .int .i64 b.og, .slice po' b.path.length cp', .slice co' b.comms.length cc', .int .i64 b.fr, .slice ko' b.cl.length ck']] W fun e w' => e = .returned (.int .i64 r) ∧ Below W.heap.size W w'
  same : ∀ (a b : At) (po co ko : Option Addr) (cp cc ck : Nat) (po' co' ko' : Option Addr) (cp' cc' ck' : Nat) (r : Bool), decide (At.cmp a b = 0) = r → ∀ W, T W → At.lies W a po co ko → At.lies W b po' co' ko' → a.path.length ≤ 100 → a.comms.length ≤ 100 → a.cl.length ≤ 100 → b.path.length ≤ 100 → b.comms.length ≤ 100 → b.cl.length ≤ 100 → Calls Tryz.prog 16 #[.agg #[.int .i64 a.pf, .int .i64 a.md, .int .i64 a.og, .slice po a.path.length cp, .slice co a.comms.length cc, .int .i64 a.fr, .slice ko a.cl.length ck], .agg #[.int .i64 b.pf, .int .i64 b.md, .int .i64 b.og, .slice po' b.path.length cp', .slice co' b.comms.length cc', .int .i64 b.fr, .slice ko' b.cl.length ck']] W fun e w' => e = .returned (.bool r) ∧ Below W.heap.size W w'
  plain : ∀ W, T W → Calls Tryz.prog 20 #[] W fun e w' => (∃ (po co ko : Option Addr) (cp cc ck : Nat), e = .returned (.agg #[.int .i64 100, .int .i64 0, .int .i64 0, .slice po 0 cp, .slice co 0 cc, .int .i64 0, .slice ko 0 ck])) ∧ Below W.heap.size W w'
  nothing : ∀ W, T W → Calls Tryz.prog 15 #[] W (NoneGood W)
  copy : ∀ (a : At) (po co ko : Option Addr) (cp cc ck : Nat), ∀ W, T W → At.lies W a po co ko → At.came a po co ko cp cc ck → a.path.length ≤ 100 → a.comms.length ≤ 100 → a.cl.length ≤ 100 → Calls Tryz.prog 18 #[.agg #[.int .i64 a.pf, .int .i64 a.md, .int .i64 a.og, .slice po a.path.length cp, .slice co a.comms.length cc, .int .i64 a.fr, .slice ko a.cl.length ck]] W (CopyGood W a)
  do_ : ∀ (a : At) (po co ko : Option Addr) (cp cc ck : Nat) (s : St) (ao dl pr : Option Addr) (ca cd cr : Nat), ∀ W, T W → At.lies W a po co ko → At.came a po co ko cp cc ck → a.path.length ≤ 100 → a.comms.length ≤ 100 → a.cl.length ≤ 100 → St.lies W s ao dl pr → (Cm.Co.came ao ca ∧ Cm.Co.came dl cd ∧ Cm.Co.came pr cr) → s.add.length ≤ 100 → s.del.length ≤ 100 → s.pre.length ≤ 100 → Calls Tryz.prog 9 #[.agg #[.int .i64 a.pf, .int .i64 a.md, .int .i64 a.og, .slice po a.path.length cp, .slice co a.comms.length cc, .int .i64 a.fr, .slice ko a.cl.length ck], .agg #[.int .i64 s.pf, .int .i64 s.md, .int .i64 s.og, .slice ao s.add.length ca, .slice dl s.del.length cd, .bool s.clr, .slice pr s.pre.length cr]] W (DoGood W a s)

def plainText : List UInt8 := [112, 114, 101, 102, 32, 49, 48, 48, 32, 109, 101, 100, 32, 48, 32, 111, 114, 105, 103, 105, 110, 32, 105, 103, 112, 32, 112, 97, 116, 104, 32, 91, 93, 32, 99, 111, 109, 109, 115, 32, 91, 93]
theorem itoa100 : Lib.itoa 100 = [49, 48, 48] := by
  rw [show (100 : Int) = ((100 : Nat) : Int) from rfl, Lib.itoa_nonneg, show (100 : Nat) = 10 * 10 + 0 from rfl, dec_step _ _ (by decide) (by decide), show (10 : Nat) = 10 * 1 + 0 from rfl, dec_step _ _ (by decide) (by decide), Lib.decDigits_one (by decide)]
  rfl
theorem itoa0 : Lib.itoa 0 = [48] := by
  rw [show (0 : Int) = ((0 : Nat) : Int) from rfl, Lib.itoa_nonneg, Lib.decDigits_one (by decide)]
  rfl
theorem plain_text : At.text At.plain = plainText := by
  have hm : At.may At.plain = true := by decide
  unfold At.text
  rw [if_pos hm]
  simp only [At.head, At.plain, itoa100, itoa0]
  decide
theorem lies_nil (w : World) (po co ko : Option Addr) : At.lies w At.plain po co ko := ⟨.inl rfl, .inl rfl, .inl rfl⟩
set_option maxRecDepth 100000 in
theorem lives_is {T : World → Prop} (K : Kit T) (w : World) (hT : T w) : Calls Tryz.prog 8 #[] w fun e w' => e = .returned (.bool true) ∧ Below w.heap.size w w' := by
  have CP := hide (K.plain w hT)
  have CT := hide (fun po co ko cp cc ck W hW => K.text At.plain po co ko cp cc ck _ rfl W hW (lies_nil W po co ko) (by decide) (by decide) (by decide) (Nat.zero_le _))
  have HP := hide plain_text
  have HON := hide (fun w' => K.on (w := w) (w' := w') hT)
  clear K
  go_enter Tryz.func8, Tryz.ntmps8
  go_wp2_with fail
  refine CP.out.mono ?_
  rintro e w1 ⟨⟨po, co, ko, cp, cc, ck, rfl⟩, hb1⟩
  have CT1 := hide (CT.out po co ko cp cc ck w1 (HON.out w1 hb1))
  rw [HP.out] at CT1
  unfold plainText At.plain at CT1
  simp only [List.length_nil] at CT1
  have HB1 := hide hb1
  clear hb1 CT CP HON hT
  go_wp2_with fail
  refine CT1.out.mono ?_
  rintro e w2 ⟨rfl, hb2⟩
  have HB2 := hide (bthen HB1.out hb2)
  clear hb2 CT1
  go_wp2_with fail
  go_ret
  exact ⟨rfl, HB2.out⟩
end Go.Proofs.YtpkikfojiibdaaaGreatDoor
