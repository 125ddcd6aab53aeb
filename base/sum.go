package base

import (
	"math/bits"

	"turnpike/api"
)

const (
	fnvStart = 14695981039346656037
	fnvPrime = 1099511628211
)

// Fnv is a sum of 64 bits.
func Fnv(s string) uint64 {
	h := uint64(fnvStart)
	for i := range len(s) {
		h = (h ^ uint64(s[i])) * fnvPrime
	}
	return h
}

// Sha1 is a sum of 20 bytes.
func Sha1(s string) string {
	x := New()
	x.Write(s)
	return x.Done()
}

const (
	keyBytes = 16
	keyTail  = "258EAFA5-E914-47DA-95CA-C5AB0DC85B11"
)

// Accept is the answer to a handshake's key.
func Accept(key string) (string, api.Errno) {
	seed, _, err := Decode(key)
	if err != api.OK || len(seed) != keyBytes {
		return "", api.ErrSeed
	}
	return Encode(Sha1(key + keyTail)), api.OK
}

const (
	pieceBytes  = 64
	lengthBytes = 8 // at the end of the last piece: how many bits there were
)

// Sum is a Sha1 that is given its text in parts.
type Sum struct {
	words [5]uint32
	piece [pieceBytes]byte // the bytes of the last piece, count%pieceBytes of them
	count int
}

// New is a Sum that was given nothing.
func New() *Sum {
	return &Sum{words: [5]uint32{0x67452301, 0xefcdab89, 0x98badcfe, 0x10325476, 0xc3d2e1f0}}
}

// Write gives it more.
func (x *Sum) Write(s string) {
	for s != "" {
		n := copy(x.piece[x.count%pieceBytes:], s)
		s = s[n:]
		x.count += n
		if x.count%pieceBytes == 0 {
			x.words = stir(x.words, x.piece)
		}
	}
}

// Len is how many bytes it was given.
func (x *Sum) Len() int { return x.count }

// Done is the sum of all that it was given.
func (x *Sum) Done() string {
	last := *x // a copy is filled up, so that one may go on writing to x
	last.Write(filling(x.count))
	out := make([]byte, 0, 4*len(last.words))
	for _, w := range last.words {
		out = append(out, byte(w>>24), byte(w>>16), byte(w>>8), byte(w))
	}
	return string(out)
}

// filling is what stands behind a text of n bytes up to the end of its last piece.
func filling(n int) string {
	zeros := (2*pieceBytes - lengthBytes - 1 - n%pieceBytes) % pieceBytes
	out := make([]byte, 1+zeros, 1+zeros+lengthBytes)
	out[0] = 128
	length := 8 * uint64(n)
	for i := range lengthBytes {
		out = append(out, byte(length>>(56-8*i)))
	}
	return string(out)
}

// stir is the five words behind one more piece.
func stir(words [5]uint32, piece [pieceBytes]byte) [5]uint32 {
	w := spread(piece)
	a, b, c, d, e := words[0], words[1], words[2], words[3], words[4]
	for t := range len(w) {
		var f, k uint32
		switch t / 20 {
		case 0:
			f, k = b&c|^b&d, 0x5a827999
		case 1:
			f, k = b^c^d, 0x6ed9eba1
		case 2:
			f, k = b&c|b&d|c&d, 0x8f1bbcdc
		default:
			f, k = b^c^d, 0xca62c1d6
		}
		next := bits.RotateLeft32(a, 5) + f + e + k + w[t]
		a, b, c, d, e = next, a, bits.RotateLeft32(b, 30), c, d
	}
	for i, letter := range [5]uint32{a, b, c, d, e} {
		words[i] += letter
	}
	return words
}

// spread is the eighty words that a piece's sixteen are made into.
func spread(piece [pieceBytes]byte) [80]uint32 {
	var w [80]uint32
	for i, c := range piece {
		w[i/4] = w[i/4]<<8 | uint32(c)
	}
	for t := 16; t < len(w); t++ {
		w[t] = bits.RotateLeft32(w[t-3]^w[t-8]^w[t-14]^w[t-16], 1)
	}
	return w
}
