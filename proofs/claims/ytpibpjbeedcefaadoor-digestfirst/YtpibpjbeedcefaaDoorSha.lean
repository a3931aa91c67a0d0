/- SHA-256 as plain functions on numbers and lists, and small laws on them. No program. -/
import Derived.Test.YtpibpjbeedcefaaDoorOld
namespace Go.Proofs.YtpibpjbeedcefaaDoor

/-- A word turned to the right. -/
def rot (n x : Nat) : Nat := x / 2 ^ n + x % 2 ^ n * 2 ^ (32 - n)
def lo0 (x : Nat) : Nat := rot 7 x ^^^ rot 18 x ^^^ x / 8
def lo1 (x : Nat) : Nat := rot 17 x ^^^ rot 19 x ^^^ x / 1024
def up0 (x : Nat) : Nat := rot 2 x ^^^ rot 13 x ^^^ rot 22 x
def up1 (x : Nat) : Nat := rot 6 x ^^^ rot 11 x ^^^ rot 25 x
def cho (e f g : Nat) : Nat := (e &&& f) ^^^ ((4294967295 - e) &&& g)
def maj (a b c : Nat) : Nat := (a &&& b) ^^^ (a &&& c) ^^^ (b &&& c)

def keyTab : List Nat := [1116352408, 1899447441, 3049323471, 3921009573, 961987163, 1508970993, 2453635748, 2870763221, 3624381080, 310598401, 607225278, 1426881987, 1925078388, 2162078206, 2614888103, 3248222580, 3835390401, 4022224774, 264347078, 604807628, 770255983, 1249150122, 1555081692, 1996064986, 2554220882, 2821834349, 2952996808, 3210313671, 3336571891, 3584528711, 113926993, 338241895, 666307205, 773529912, 1294757372, 1396182291, 1695183700, 1986661051, 2177026350, 2456956037, 2730485921, 2820302411, 3259730800, 3345764771, 3516065817, 3600352804, 4094571909, 275423344, 430227734, 506948616, 659060556, 883997877, 958139571, 1322822218, 1537002063, 1747873779, 1955562222, 2024104815, 2227730452, 2361852424, 2428436474, 2756734187, 3204031479, 3329325298]

/-- Eight words. -/
structure V8 where
  a : Nat
  b : Nat
  c : Nat
  d : Nat
  e : Nat
  f : Nat
  g : Nat
  h : Nat

def V8.list (v : V8) : List Nat := [v.a, v.b, v.c, v.d, v.e, v.f, v.g, v.h]
def V8.ok (v : V8) : Prop := ∀ x ∈ v.list, x < 4294967296

def h0 : V8 := ⟨1779033703, 3144134277, 1013904242, 2773480762, 1359893119, 2600822924, 528734635, 1541459225⟩

/-- What a round adds, and the round. -/
def V8.x (v : V8) (k w : Nat) : Nat := v.h + up1 v.e + cho v.e v.f v.g + k + w
def V8.step (v : V8) (k w : Nat) : V8 := ⟨(v.x k w + up0 v.a + maj v.a v.b v.c) % 4294967296, v.a, v.b, v.c, (v.d + v.x k w) % 4294967296, v.e, v.f, v.g⟩

/-- The word behind those that are there. -/
def ext (l : List Nat) : Nat := (l.getD (l.length - 16) 0 + lo0 (l.getD (l.length - 15) 0) + l.getD (l.length - 7) 0 + lo1 (l.getD (l.length - 2) 0)) % 4294967296
def exts : Nat → List Nat → List Nat
  | 0, l => l
  | k + 1, l => exts k l ++ [ext (exts k l)]

def runN (ws : List Nat) (v : V8) : Nat → V8
  | 0 => v
  | n + 1 => (runN ws v n).step (keyTab.getD n 0) (ws.getD n 0)

/-- The number that bytes are is 'n8'. The sixteen words of a block. -/
def words (blk : List UInt8) : List Nat := (List.range 16).map fun i => n8 ((blk.drop (4 * i)).take 4)

def V8.plus (v u : V8) : V8 := ⟨(v.a + u.a) % 4294967296, (v.b + u.b) % 4294967296, (v.c + u.c) % 4294967296, (v.d + u.d) % 4294967296, (v.e + u.e) % 4294967296, (v.f + u.f) % 4294967296, (v.g + u.g) % 4294967296, (v.h + u.h) % 4294967296⟩

def comp (v : V8) (blk : List UInt8) : V8 := v.plus (runN (exts 48 (words blk)) v 64)

/-- The words behind m whole blocks. -/
def absorb : Nat → List UInt8 → V8
  | 0, _ => h0
  | m + 1, p => comp (absorb m p) ((p.drop (64 * m)).take 64)

def zeros (n : Nat) : List UInt8 := List.replicate n 0
def pad (bs : List UInt8) : List UInt8 := bs ++ ([128] ++ (zeros ((119 - bs.length % 64) % 64) ++ e8 (bs.length * 8)))

/-- A word's byte. -/
def outs (v : V8) : List UInt8 := (List.range 32).map fun i => (v.list.getD (i / 4) 0 / 2 ^ (8 * (3 - i % 4))).toUInt8
def sha (bs : List UInt8) : List UInt8 := outs (absorb ((pad bs).length / 64) (pad bs))

theorem outs_length (v : V8) : (outs v).length = 32 := by simp [outs]
theorem sha_length (bs : List UInt8) : (sha bs).length = 32 := outs_length _

theorem sha_nil0 : (sha []).getD 0 0 = 227 := by kernel_rfl
theorem sha_nil31 : (sha []).getD 31 0 = 85 := by kernel_rfl
theorem sha_abc0 : (sha [97, 98, 99]).getD 0 0 = 186 := by kernel_rfl
theorem sha_abc31 : (sha [97, 98, 99]).getD 31 0 = 173 := by kernel_rfl
end Go.Proofs.YtpibpjbeedcefaaDoor
