/-
  The contracts of the closures of lex/start.go's table. Conditions: a text of 1 to 65536 bytes; each captured variable's cell as it was laid.
-/
import Derived.Test.YtciabhboiomehaaDoorPiecesE
namespace Go.Proofs.YtciabhboiomehaaDoor
open Go.RowKit

def pieceCells (p : Pc) : Array Value := #[.int .u8 p.tok.kind, .int .i64 p.tok.place, .string (bs p.tok.text), .int .i64 p.tok.mn, .int .i64 p.tok.mx, .int .u8 p.tok.lo, .int .u8 p.tok.hi, .int .i64 p.size, .int .i64 p.bad, .int .i64 p.err]

set_option maxHeartbeats 400000 in
theorem textIs_any (s t : ByteArray) (b : Nat) (w : World) (hc : w.cell? ⟨b, 0, none⟩ = some (.string t)) :
    Calls Tryd.prog 63 #[.string s, .pointer (some ⟨b, 0, none⟩)] w fun e w' => e = .returned (.bool (Lib.hasPrefix s.data.toList t.data.toList)) ∧ ∃ m, w' = w.drewN m := by
  go_enter Tryd.func63, Tryd.ntmps63
  go_wp2_with (go_at_call 64; refine (Tryd.strings_HasPrefix s t _).mono ?_; rintro e w' ⟨rfl, rfl⟩)
  go_ret
  exact ⟨rfl, 0, rfl⟩

set_option maxHeartbeats 400000 in
theorem byteIs_any (s : ByteArray) (f : FuncId) (p : Int → Bool) (b : Nat) (w : World) (h1 : 1 ≤ s.size) (hc : w.cell? ⟨b, 0, none⟩ = some (.func (.func f) #[] #[]))
    (eg : ∀ (args : Array Value) (w : World), (callFunc f args).run Tryd.prog w = .ok (.enter f args) w)
    (hp : ∀ (n : Int) (w : World), 0 ≤ n → n ≤ 255 → Calls Tryd.prog f #[.int .u8 n] w fun e w' => e = .returned (.bool (p n)) ∧ w = w') :
    Calls Tryd.prog 61 #[.string s, .pointer (some ⟨b, 0, none⟩)] w fun e w' => e = .returned (.bool (p (byteZ s.data.toList 0))) ∧ ∃ m, w' = w.drewN m := by
  have h0 : 0 < s.size := by omega
  have h0' : (0 : Int) < s.size := by omega
  have hb := byteZ_at s 0 h0
  have hlo := byteZ_lo s.data.toList 0
  have hhi := byteZ_hi s.data.toList 0
  have HP := Lib.hid (fun W => hp _ W hlo hhi)
  rw [← hb] at HP
  have HB := Lib.hid hb
  clear hb hp hlo hhi
  go_enter Tryd.func61, Tryd.ntmps61
  go_wp2
  go_quiet ((go_at_fn f; exact quiet_left (HP.out _)))
  go_wp2
  go_ret
  exact ⟨ret_bool (by rw [HB.out]), _, rfl⟩

set_option maxHeartbeats 400000 in
theorem signIs_any (s : ByteArray) (p : Pc) (b : Nat) (w : World) (hb : Blk w b 100 (pieceCells p)) :
    Calls Tryd.prog 67 #[.string s, .pointer (some ⟨b, 0, none⟩)] w fun e w' => e = .returned (pieceV p) ∧ Below w.heap.size w w' := by
  have hc := hb.cell
  have hlt := hb.lt
  unfold pieceCells at hc
  go_enter Tryd.func67, Tryd.ntmps67
  go_wp2
  exact bodyPost_ret (v := pieceV p) (by simp [results, Tryd.results67, go_sem]; rfl) rfl ⟨rfl, (Below.refl _ _).alloc (Nat.le_refl _) _⟩

set_option maxHeartbeats 400000 in
theorem refuseIs_any (s : ByteArray) (er : Nat) (b : Nat) (w : World) (hb : Blk w b 31 #[.int .i64 er]) :
    Calls Tryd.prog 74 #[.string s, .pointer (some ⟨b, 0, none⟩)] w fun e w' => e = .returned (pieceV { bad := 0, err := er }) ∧ Below w.heap.size w w' := by
  have hc := hb.cell
  have hlt := hb.lt
  go_enter Tryd.func74, Tryd.ntmps74
  go_wp2_with fail
  refine (fault_any 0 er _).mono ?_
  rintro e w1 ⟨rfl, hb1⟩
  have hR1 : Blk w1 w.heap.size 100 zeroCells := (Blk.new w 100 zeroCells).below hb1 (by simp)
  have hB1 : Below w.heap.size w w1 := ((Below.refl _ _).alloc (Nat.le_refl _) _).trans (hb1.mono (by simp))
  clear hb1
  have hcR := hR1.cell
  have hfR := hR1.frozen
  unfold zeroCells at hcR
  unfold pieceV
  go_wp2
  refine bodyPost_ret (v := pieceV { bad := 0, err := er }) ?_ rfl ⟨rfl, ?_⟩
  · simp [results, Tryd.results74, go_sem, hcR]
    rfl
  · iterate 10 refine Below.setCell ?_ (by simp) _
    exact hB1

theorem run_store_func (P : Program) (w : World) (a : Addr) (m : Mode) (fn : Fn) (x y : Array Value) : (store a (.func fn x y) m).run P w = stored P w a (.func fn x y) m := run_store P w a _ m rfl

set_option maxHeartbeats 400000 in
theorem text_any (t : ByteArray) (w : World) :
    Calls Tryd.prog 37 #[.string t] w fun e w' => e = .returned (.func (.func 63) #[] #[.pointer (some ⟨w.heap.size, 0, none⟩)]) ∧ w' = w.alloc (.cells #[.string t] 9) := by
  go_enter Tryd.func37, Tryd.ntmps37
  go_wp2
  go_ret
  exact ⟨rfl, rfl⟩
set_option maxHeartbeats 400000 in
theorem byteThat_any (f : FuncId) (w : World) :
    Calls Tryd.prog 34 #[.func (.func f) #[] #[]] w fun e w' => e = .returned (.func (.func 61) #[] #[.pointer (some ⟨w.heap.size, 0, none⟩)]) ∧ w' = w.alloc (.cells #[.func (.func f) #[] #[]] 74) := by
  go_enter Tryd.func34, Tryd.ntmps34
  go_wp2
  go_ret
  exact ⟨rfl, rfl⟩
set_option maxHeartbeats 400000 in
theorem refuse_any (er : Int) (w : World) :
    Calls Tryd.prog 46 #[.int .i64 er] w fun e w' => e = .returned (.func (.func 74) #[] #[.pointer (some ⟨w.heap.size, 0, none⟩)]) ∧ w' = w.alloc (.cells #[.int .i64 er] 31) := by
  go_enter Tryd.func46, Tryd.ntmps46
  go_wp2
  go_ret
  exact ⟨rfl, rfl⟩
theorem Blk.new_at (w : World) (t : TypeId) (cs : Array Value) (g : Nat) (hg : g = w.heap.size) : Blk (w.alloc (.cells cs t)) g t cs := by subst hg; exact Blk.new _ _ _

def textV (g : Nat) : Value := .func (.func 63) #[] #[.pointer (some ⟨g, 0, none⟩)]
def byteV (g : Nat) : Value := .func (.func 61) #[] #[.pointer (some ⟨g, 0, none⟩)]
def signV (g : Nat) : Value := .func (.func 67) #[] #[.pointer (some ⟨g, 0, none⟩)]
def refuseV (g : Nat) : Value := .func (.func 74) #[] #[.pointer (some ⟨g, 0, none⟩)]
def plainV (f : Nat) : Value := .func (.func f) #[] #[]
def textO (t : List UInt8) : Obj := .cells #[.string (bs t)] 9
def byteO (f : Nat) : Obj := .cells #[plainV f] 74
def refuseO (er : Nat) : Obj := .cells #[.int .i64 er] 31
def signO (kind : Int) (t : List UInt8) : Obj := .cells (pieceCells { tok := { kind := kind }, size := t.length }) 100
def startO (a b : Value) : Obj := .cells #[a, b] 77

set_option maxHeartbeats 400000 in
theorem sign_any (t : List UInt8) (kind : Int) (N : Nat) (w : World) (hN : w.heap.size = N) :
    Calls Tryd.prog 41 #[.string (bs t), .int .u8 kind] w fun e w' => e = .returned (.agg #[textV (N + 2), signV (N + 1)]) ∧
      w' = ((w.alloc (startO (textV (N + 2)) (signV (N + 1)))).alloc (signO kind t)).alloc (textO t) := by
  have hsf := run_store_func Tryd.prog
  have HN := Lib.hid hN
  clear hN
  have hts : (bs t).size = t.length := by show (t.toArray).size = _; simp
  go_enter Tryd.func41, Tryd.ntmps41
  go_wp2_with (go_at_call 37; refine (text_any _ _).mono ?_; rintro e w' ⟨rfl, rfl⟩)
  refine bodyPost_ret (v := .agg #[textV (w.heap.size + 2), signV (w.heap.size + 1)]) ?_ rfl ⟨by rw [HN.out], by rw [← HN.out]; rfl⟩
  · simp [results, Tryd.results41, go_sem, textV, signV]

/-- the blocks that the table lays -/
def startObjs (N : Nat) : List Obj :=
  [byteO 35, textO [59], byteO 39,
   startO (textV (N + 5)) (signV (N + 4)), signO 3 [61, 47], textO [61, 47],
   startO (textV (N + 8)) (signV (N + 7)), signO 2 [61], textO [61],
   startO (textV (N + 11)) (signV (N + 10)), signO 4 [47], textO [47],
   startO (textV (N + 14)) (signV (N + 13)), signO 5 [40], textO [40],
   startO (textV (N + 17)) (signV (N + 16)), signO 6 [41], textO [41],
   startO (textV (N + 20)) (signV (N + 19)), signO 7 [91], textO [91],
   startO (textV (N + 23)) (signV (N + 22)), signO 8 [93], textO [93],
   byteO 42, textO [34], textO [37], textO [60], refuseO 16, textO [], refuseO 11,
   .cells #[byteV N, plainV 36, textV (N + 1), plainV 38, byteV (N + 2), plainV 40,
     textV (N + 5), signV (N + 4), textV (N + 8), signV (N + 7), textV (N + 11), signV (N + 10), textV (N + 14), signV (N + 13), textV (N + 17), signV (N + 16), textV (N + 20), signV (N + 19), textV (N + 23), signV (N + 22),
     byteV (N + 24), plainV 43, textV (N + 25), plainV 44, textV (N + 26), plainV 45, textV (N + 27), refuseV (N + 28), textV (N + 29), refuseV (N + 30)] 77]

def allocs (w : World) (l : List Obj) : World := l.foldl World.alloc w
theorem allocs_heap (l : List Obj) : ∀ w : World, (allocs w l).heap = w.heap ++ l.toArray := by
  induction l with
  | nil => intro w; simp [allocs]
  | cons o l ih => intro w; show (allocs (w.alloc o) l).heap = _; rw [ih]; show w.heap.push o ++ l.toArray = _; simp
theorem allocs_below (l : List Obj) : ∀ w : World, Below w.heap.size w (allocs w l) := by
  induction l with
  | nil => intro w; exact Below.refl _ _
  | cons o l ih => intro w; exact ((Below.refl _ _).alloc (Nat.le_refl _) o).trans ((ih (w.alloc o)).mono (by simp))

set_option maxRecDepth 100000 in
set_option maxHeartbeats 4000000 in
theorem starts_any (w : World) :
    Calls Tryd.prog 19 #[] w fun e w' => e = .returned (.slice (some ⟨w.heap.size + 31, 0, none⟩) 15 15) ∧ w' = allocs w (startObjs w.heap.size) := by
  go_enter Tryd.func19, Tryd.ntmps19
  go_wp2_with (first | (go_at_call 34; refine (byteThat_any _ _).mono ?_; rintro e w' ⟨rfl, rfl⟩) | (go_at_call 37; refine (text_any _ _).mono ?_; rintro e w' ⟨rfl, rfl⟩) | (go_at_call 41; refine (sign_any _ _ _ _ rfl).mono ?_; rintro e w' ⟨rfl, rfl⟩) | (go_at_call 46; refine (refuse_any _ _).mono ?_; rintro e w' ⟨rfl, rfl⟩))
  go_ret
  exact ⟨rfl, rfl⟩
end Go.Proofs.YtciabhboiomehaaDoor
