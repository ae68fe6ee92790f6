package rsa

import (
	"bytes"

	"chirograph/api"
	"chirograph/digest"
	"chirograph/nat"
)

// VerifyPss: in the second way.
func VerifyPss(k api.RsaKey, alg, mask, salt int, sum, sig []byte) api.Errno {
	if !isDigest(alg, sum) || digest.Size(mask) == 0 || salt < 0 {
		return api.ErrArg
	}
	raw, e := Raw(k, sig)
	if e != api.OK {
		return e
	}
	bits := nat.Bits(k.N) - 1
	em, ok := lowest(raw, inBytes(bits))
	if !ok {
		return api.ErrSig
	}
	masked, hash, ok := cutMessage(em, digest.Size(alg), salt)
	if !ok {
		return api.ErrSig
	}
	data, ok := unmask(masked, hash, mask, 8*len(em)-bits)
	if !ok {
		return api.ErrSig
	}
	salted, ok := cutSalt(data, salt)
	if !ok {
		return api.ErrSig
	}
	again, e := digest.Sum(alg, make([]byte, 8), sum, salted)
	if e != api.OK || !bytes.Equal(again, hash) {
		return api.ErrSig
	}
	return api.OK
}

// lowest tells the last n bytes, if the one ahead of them, where there is one,
// is 0.
func lowest(raw []byte, n int) (em []byte, ok bool) {
	return raw[len(raw)-n:], len(raw) == n || raw[0] == 0
}

// cutMessage tells what is masked, and the digest of size bytes that masks it.
// (How long a salt may be is asked by a difference: a sum with it might wrap
// round.)
func cutMessage(em []byte, size, salt int) (masked, hash []byte, ok bool) {
	end := len(em) - 1
	if salt > end-size-1 || em[end] != 0xbc {
		return nil, nil, false
	}
	return em[:end-size], em[end-size : end], true
}

// unmask tells, in new memory, what was masked; its highest bits, spare ones,
// are those that the modulus has no room for.
func unmask(masked, hash []byte, mask, spare int) (data []byte, ok bool) {
	room := byte(0xff) >> spare
	data, e := Mask(mask, hash, len(masked))
	if e != api.OK || masked[0]&^room != 0 {
		return nil, false
	}
	for i, b := range masked {
		data[i] ^= b
	}
	data[0] &= room
	return data, true
}

// cutSalt tells the last salt bytes, if noughts and a byte 01 are ahead.
func cutSalt(data []byte, salt int) (salted []byte, ok bool) {
	n := len(data) - salt
	ahead := make([]byte, n)
	ahead[n-1] = 1
	return data[n:], bytes.Equal(data[:n], ahead)
}
