package rsa_test

import (
	"bytes"
	"crypto"
	golib "crypto/rsa"
	"math/rand"
	"slices"
	"testing"

	"chirograph/api"
	"chirograph/rsa"
)

// stamp is what is signed in the second way, part by part, so that each part
// may be made wrong.
type stamp struct {
	bits, alg, mask int
	sum, salt       []byte
	eight           []byte // ahead of the sum
	ahead           []byte // ahead of the salt
	last            byte
	hash            []byte // nil: the right one
}

func newStamp(bits, alg, mask int, sum, salt []byte) stamp {
	n := (bits - 1 + 7) / 8
	ahead := make([]byte, n-len(library(alg))-len(salt)-1)
	ahead[len(ahead)-1] = 1
	return stamp{bits: bits, alg: alg, mask: mask, sum: sum, salt: salt, eight: make([]byte, 8), ahead: ahead, last: 0xbc}
}

// spare is how many bits of the first byte are no bits of the modulus less one.
func (s stamp) spare() int {
	return (8 - (s.bits-1)%8) % 8
}

// message is EM.
func (s stamp) message() []byte {
	hash := s.hash
	if hash == nil {
		hash = library(s.alg, s.eight, s.sum, s.salt)
	}
	m := slices.Concat(s.ahead, s.salt)
	for i, x := range modelMask(s.mask, hash, len(m)) {
		m[i] ^= x
	}
	m[0] = m[0] << s.spare() >> s.spare()
	return slices.Concat(m, hash, []byte{s.last})
}

// raw is EM in as many bytes as the modulus has.
func (s stamp) raw() []byte {
	m := s.message()
	return append(make([]byte, (s.bits+7)/8-len(m)), m...)
}

// most is how long a salt may be.
func mostSalt(bits, alg int) int {
	return (bits-1+7)/8 - len(library(alg)) - 2
}

func wantPss(t *testing.T, what string, k api.RsaKey, alg, mask, salt int, sum, sig []byte, asked api.Errno) {
	t.Helper()
	wantErrno(t, "VerifyPss: "+what, rsa.VerifyPss(k, alg, mask, salt, sum, sig), asked)
}

// pssPairs are keys in all lengths modulo 8 bits, long enough for each alg;
// those that are low have few bits set at the beginning.
func pssPairs(r *rand.Rand) []pair {
	var l []pair
	for bits := 640; bits < 649; bits++ {
		l = append(l, newPair(r, bits, pick(r, 3, 17, uint64(65537)), false), newPair(r, bits, 3, true))
	}
	return l
}

// P8.6

func TestPss(t *testing.T) {
	r := rand.New(rand.NewSource(91))
	for _, p := range pssPairs(r) {
		for _, alg := range algs {
			for _, mask := range algs {
				most := mostSalt(p.bits, alg)
				for _, n := range []int{0, 1, most / 2, most - 1, most} {
					sum, salt := some(r, len(library(alg))), some(r, n)
					sig := p.sign(newStamp(p.bits, alg, mask, sum, salt).raw())
					wantPss(t, "a good one", p.key(), alg, mask, n, sum, sig, api.OK)
				}
			}
		}
	}
}

func TestPssOfLongestKey(t *testing.T) {
	r := rand.New(rand.NewSource(92))
	p := newPair(r, 32*api.MaxModulus, 3, false)
	for _, n := range []int{0, 20, mostSalt(p.bits, api.Sha512)} {
		sum := some(r, 64)
		sig := p.sign(newStamp(p.bits, api.Sha512, api.Sha1, sum, some(r, n)).raw())
		wantPss(t, "the longest key", p.key(), api.Sha512, api.Sha1, n, sum, sig, api.OK)
		wantPss(t, "the longest key", p.key(), api.Sha512, api.Sha1, n+1, sum, sig, api.ErrSig)
	}
}

// Go's library verifies the same ones, where one alg is both.
func TestPssAgainstLibrary(t *testing.T) {
	r := rand.New(rand.NewSource(93))
	hashes := []crypto.Hash{crypto.SHA1, crypto.SHA256, crypto.SHA384, crypto.SHA512}
	for bits := 1024; bits < 1034; bits++ {
		p := newPair(r, bits, 65537, false)
		public := &golib.PublicKey{N: p.n, E: 65537}
		for i, alg := range algs {
			for _, n := range []int{1, 20, len(library(alg)), mostSalt(bits, alg)} {
				n = min(n, mostSalt(bits, alg))
				sum, salt := some(r, len(library(alg))), some(r, n)
				raw := newStamp(bits, alg, alg, sum, salt).raw()
				for range 4 {
					sig := p.sign(raw)
					good := golib.VerifyPSS(public, hashes[i], sum, sig, &golib.PSSOptions{SaltLength: n}) == nil
					if (rsa.VerifyPss(p.key(), alg, alg, n, sum, sig) == api.OK) != good {
						t.Errorf("%d bits, alg %d, salt of %d: the library says %v of what says %x", bits, alg, n, good, raw)
					}
					raw = slices.Clone(raw)
					raw[1+r.Intn(len(raw)-1)] ^= byte(1 << r.Intn(8))
				}
			}
		}
	}
}

// What is wrong in one part alone.
func TestPssOneThingWrong(t *testing.T) {
	r := rand.New(rand.NewSource(94))
	for _, p := range pssPairs(r) {
		alg, mask, n := pick(r, api.Sha1, api.Sha256), pick(r, algs...), r.Intn(12)
		sum, salt := some(r, len(library(alg))), some(r, n)
		good := newStamp(p.bits, alg, mask, sum, salt)
		ask := func(what string, change func(s *stamp)) {
			s := good
			s.ahead, s.eight, s.sum = slices.Clone(s.ahead), slices.Clone(s.eight), slices.Clone(s.sum)
			change(&s)
			asked := api.ErrSig
			if bytes.Equal(s.raw(), good.raw()) {
				asked = api.OK
			}
			wantPss(t, what, p.key(), alg, mask, n, sum, p.sign(s.raw()), asked)
		}
		ask("nothing wrong", func(s *stamp) {})
		for x := range 256 {
			ask("the last byte", func(s *stamp) { s.last = byte(x) })
			ask("the byte ahead of the salt", func(s *stamp) { s.ahead[len(s.ahead)-1] = byte(x) })
		}
		for i := range len(good.ahead) - 1 {
			ask("a nought", func(s *stamp) { s.ahead[i] = 1 })
			ask("a nought", func(s *stamp) { s.ahead[i] = 0x80 >> s.spare() })
		}
		for i := range 8 {
			ask("one of eight bytes", func(s *stamp) { s.eight[i] = 1 })
		}
		ask("seven bytes", func(s *stamp) { s.eight = s.eight[1:] })
		ask("nine bytes", func(s *stamp) { s.eight = append(s.eight, 0) })
		ask("another sum", func(s *stamp) { s.sum[len(s.sum)-1] ^= 1 })
		ask("another hash", func(s *stamp) { s.hash = library(alg, s.sum, s.salt) })
		ask("another hash", func(s *stamp) { s.hash = library(alg, s.eight, s.salt, s.sum, []byte{0}) })
		other := api.Sha1 + mask%4
		ask("another mask", func(s *stamp) { s.mask = other })
		if t.Failed() {
			t.Fatalf("%d bits, alg %d, mask %d, salt of %d", p.bits, alg, mask, n)
		}
	}
}

// Bits that the modulus has no room for, and the byte ahead of EM: one bit of
// these may be set in what is still below the modulus. Nothing else is wrong.
func TestPssHighestBits(t *testing.T) {
	r := rand.New(rand.NewSource(95))
	for bits := 640; bits < 657; bits++ {
		p := newPair(r, bits, 3, false)
		for _, alg := range algs {
			sum, salt := some(r, len(library(alg))), some(r, 5)
			if mostSalt(bits, alg) < 5 {
				t.Fatal("no room for the salt")
			}
			raw := newStamp(bits, alg, api.Sha1, sum, salt).raw()
			wantPss(t, "a good one", p.key(), alg, api.Sha1, 5, sum, p.sign(raw), api.OK)
			raw[0] |= 1 << ((bits - 1) % 8)
			wantPss(t, "the highest bit", p.key(), alg, api.Sha1, 5, sum, p.sign(raw), api.ErrSig)
		}
	}
}

// A salt of another length than is told.
func TestPssOtherSalt(t *testing.T) {
	r := rand.New(rand.NewSource(96))
	for bits := 512; bits < 522; bits++ {
		p := newPair(r, bits, 3, false)
		alg := pick(r, api.Sha1, api.Sha256)
		most := mostSalt(bits, alg)
		for _, n := range []int{0, 1, most / 2, most - 1, most} {
			sum := some(r, len(library(alg)))
			salt := some(r, n)
			if n > 0 {
				salt[0] = 1 // so that one nought less would do
			}
			sig := p.sign(newStamp(bits, alg, alg, sum, salt).raw())
			for told := range most + 70 {
				asked := api.ErrSig
				if told == n {
					asked = api.OK
				}
				wantPss(t, "another salt", p.key(), alg, alg, told, sum, sig, asked)
			}
			for _, told := range []int{1 << 20, 1 << 32, 1<<32 + n, 1<<63 - 1, 1<<63 - 2, 1<<63 - 22, 1<<63 - 34} {
				wantPss(t, "a salt far too long", p.key(), alg, alg, told, sum, sig, api.ErrSig)
			}
		}
	}
}

// Where there is no room for a digest and its two bytes, no signature is right.
func TestPssShortKeys(t *testing.T) {
	r := rand.New(rand.NewSource(97))
	for bits := 512; bits < 545; bits++ {
		p := newPair(r, bits, 3, false)
		sum := some(r, 64)
		n := (bits - 1 + 7) / 8
		if n >= 66 {
			sig := p.sign(newStamp(bits, api.Sha512, api.Sha512, sum, nil).raw())
			wantPss(t, "no salt", p.key(), api.Sha512, api.Sha512, 0, sum, sig, api.OK)
			wantPss(t, "no salt", p.key(), api.Sha512, api.Sha512, n-65, sum, sig, api.ErrSig)
			continue
		}
		hash := library(api.Sha512, make([]byte, 8), sum)
		em := append(slices.Clone(hash), 0xbc)
		for _, raw := range [][]byte{em[len(em)-n:], make([]byte, n), append(make([]byte, n-1), 0xbc)} {
			raw = append(make([]byte, p.size()-n), raw...)
			raw[0] &= 0x7f >> ((8*p.size() - bits) % 8)
			for _, salt := range []int{0, 1, 20} {
				wantPss(t, "a short key", p.key(), api.Sha512, api.Sha1, salt, sum, p.sign(raw), api.ErrSig)
			}
		}
	}
}

func TestPssFirstError(t *testing.T) {
	good := api.RsaKey{N: odd(512), E: limbs{3}}
	for _, k := range []api.RsaKey{good, {}, {N: limbs{15}, E: limbs{3}}, {N: odd(512), E: limbs{4}}} {
		for _, sig := range [][]byte{nil, make([]byte, 64), make([]byte, 63), bytes.Repeat([]byte{0xff}, 64)} {
			for _, alg := range noAlgs {
				wantPss(t, "no alg", k, alg, api.Sha1, 0, nil, sig, api.ErrArg)
				wantPss(t, "no alg", k, alg, api.Sha1, 0, make([]byte, 20), sig, api.ErrArg)
				wantPss(t, "no mask", k, api.Sha1, alg, 0, make([]byte, 20), sig, api.ErrArg)
			}
			for _, alg := range algs {
				for size := range 70 {
					if size != len(library(alg)) {
						wantPss(t, "no digest", k, alg, alg, 0, make([]byte, size), sig, api.ErrArg)
					}
				}
				for _, salt := range []int{-1, -20, -1 << 32, -1 << 63} {
					wantPss(t, "a salt below 0", k, alg, alg, salt, library(alg), sig, api.ErrArg)
				}
				asked := api.ErrKey
				if len(k.N) == 16 && k.E[0] == 3 {
					asked = api.ErrSig
				}
				for _, salt := range []int{0, 20, 1 << 32} {
					wantPss(t, "no key, or no signature", k, alg, alg, salt, library(alg), sig, asked)
				}
			}
		}
	}
}
