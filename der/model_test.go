package der_test

import (
	"math/big"
	"math/rand"
	"regexp"
	"strings"

	"chirograph/api"
)

// What the document says, written once more in another way: by great numbers,
// texts of bits and patterns.

type stop struct {
	e  api.Errno
	at int
}

// modelSplit tells what Split should.
func modelSplit(b []byte) (l []api.Tlv, e api.Errno, at int) {
	defer func() {
		if s, ok := recover().(stop); ok {
			l, e, at = nil, s.e, s.at
		}
	}()
	if len(b) > api.MaxTotal {
		panic(stop{api.ErrLong, 0})
	}
	for p := 0; p < len(b); {
		if len(l) == api.MaxElems {
			panic(stop{api.ErrMany, p})
		}
		x, end := modelElement(b, p)
		l = append(l, x)
		p = end
	}
	return l, api.OK, len(b)
}

func byteAt(b []byte, i int) byte {
	if i >= len(b) {
		panic(stop{api.ErrShort, len(b)})
	}
	return b[i]
}

func modelElement(b []byte, p int) (x api.Tlv, end int) {
	x.Class, x.Cons, x.Tag = int(b[p]/64), b[p]/32%2 == 1, int(b[p]%32)
	if x.Class == 0 && x.Tag == 0 {
		panic(stop{api.ErrTag, p})
	}
	i := p + 1
	if x.Tag == 31 {
		x.Tag, i = modelTag(b, i)
	}
	data, n := modelLength(b, i)
	x.Data, x.Raw = b[data:data+n], b[p:data+n]
	return x, data + n
}

func modelTag(b []byte, i int) (tag, next int) {
	if byteAt(b, i) == 128 {
		panic(stop{api.ErrTag, i})
	}
	for ; ; i++ {
		c := byteAt(b, i)
		tag = 128*tag + int(c%128)
		if tag > api.MaxTag || c < 128 && tag < 31 {
			panic(stop{api.ErrTag, i})
		}
		if c < 128 {
			return tag, i + 1
		}
	}
}

// modelLength lays the length that it reads once more, and holds both against
// each other.
func modelLength(b []byte, i int) (data, n int) {
	c := byteAt(b, i)
	if c == 128 || c == 255 {
		panic(stop{api.ErrSize, i})
	}
	v, data := big.NewInt(int64(c)), i+1
	if c > 128 {
		data += int(c) - 128
		byteAt(b, data-1)
		v.SetBytes(b[i+1 : data])
	}
	shortest := []byte{byte(v.Int64())}
	if v.BitLen() > 7 {
		shortest = append([]byte{byte(128 + len(v.Bytes()))}, v.Bytes()...)
	}
	if string(shortest) != string(b[i:data]) || v.Cmp(big.NewInt(int64(len(b)-data))) > 0 {
		panic(stop{api.ErrSize, i})
	}
	return data, int(v.Int64())
}

// modelPut lays an element; its class and its tag may be.
func modelPut(class, tag int, cons bool, data []byte) []byte {
	first := byte(64 * class)
	if cons {
		first += 32
	}
	b := []byte{first + byte(min(tag, 31))}
	if tag >= 31 {
		b = append(b, modelSevens(big.NewInt(int64(tag)))...)
	}
	n := big.NewInt(int64(len(data)))
	if len(data) >= 128 {
		b = append(b, byte(128+len(n.Bytes())))
		b = append(b, n.Bytes()...)
	} else {
		b = append(b, byte(len(data)))
	}
	return append(b, data...)
}

func modelSevens(n *big.Int) []byte {
	digits := n.Text(2)
	for len(digits)%7 != 0 {
		digits = "0" + digits
	}
	var b []byte
	for ; len(digits) > 0; digits = digits[7:] {
		v, _ := new(big.Int).SetString(digits[:7], 2)
		b = append(b, byte(v.Int64())+128)
	}
	b[len(b)-1] -= 128
	return b
}

// anyRow is a row of elements by chance, not always one in the one way.
func anyRow(r *rand.Rand) []byte {
	var b []byte
	for range r.Intn(4) {
		class, tag := r.Intn(4), pick(r, 1, 2, 16, 30, 31, 127, 128, 16384, api.MaxTag, 1+r.Intn(api.MaxTag))
		b = append(b, modelPut(class, tag, r.Intn(2) == 0, fill(pick(r, 0, 1, 2, 5, 127, 128, 255, 256, r.Intn(400)), byte(r.Intn(256))))...)
	}
	return b
}

// modelInt tells what a number of bytes is, in two's complement.
func modelInt(data []byte) *big.Int {
	n := new(big.Int).SetBytes(data)
	if data[0] >= 128 {
		n.Sub(n, new(big.Int).Lsh(big.NewInt(1), uint(8*len(data))))
	}
	return n
}

func modelIntForm(data []byte) bool {
	bits := bitText(data)
	return len(data) > 0 && (len(data) == 1 || strings.Trim(bits[:9], "0") != "" && strings.Trim(bits[:9], "1") != "")
}

func bitText(data []byte) string {
	var s strings.Builder
	for _, c := range data {
		for k := range 8 {
			s.WriteByte('0' + c<<k>>7)
		}
	}
	return s.String()
}

// modelBits tells what Bits should, by a text of bits.
func modelBits(data []byte) (b []byte, spare int, e api.Errno) {
	if len(data) == 0 || data[0] > 7 || data[0] != 0 && len(data) == 1 {
		return nil, 0, api.ErrForm
	}
	row := bitText(data[1:])
	if strings.Contains(row[len(row)-int(data[0]):], "1") {
		return nil, 0, api.ErrForm
	}
	return data[1:], int(data[0]), api.OK
}

func modelFlags(data []byte) (uint32, api.Errno) {
	b, _, e := modelBits(data)
	if e != api.OK {
		return 0, e
	}
	if len(b) > 4 {
		return 0, api.ErrLong
	}
	n := uint32(0)
	for i, bit := range bitText(b) {
		if bit == '1' {
			n += 1 << i
		}
	}
	return n, api.OK
}

var oidText = regexp.MustCompile(`^(0|[1-9][0-9]*)(\.(0|[1-9][0-9]*))+\z`)

// modelOid tells what Oid should.
func modelOid(data []byte) (string, api.Errno) {
	fresh := true
	for _, c := range data {
		if fresh && c == 128 {
			return "", api.ErrForm
		}
		fresh = c < 128
	}
	if len(data) == 0 || !fresh {
		return "", api.ErrForm
	}
	var numbers []*big.Int
	n := new(big.Int)
	for _, c := range data {
		n.Add(new(big.Int).Mul(n, big.NewInt(128)), big.NewInt(int64(c%128)))
		if c < 128 {
			numbers = append(numbers, n)
			n = new(big.Int)
		}
	}
	x := int64(2)
	for x > 0 && numbers[0].Cmp(big.NewInt(40*x)) < 0 {
		x--
	}
	numbers[0].Sub(numbers[0], big.NewInt(40*x))
	words := []string{big.NewInt(x).String()}
	for _, n := range numbers {
		if n.Cmp(big.NewInt(api.MaxArc)) > 0 {
			return "", api.ErrLong
		}
		words = append(words, n.String())
	}
	return strings.Join(words, "."), api.OK
}

// modelPutOid tells what PutOid should.
func modelPutOid(s string) ([]byte, api.Errno) {
	if !oidText.MatchString(s) {
		return nil, api.ErrForm
	}
	var numbers []*big.Int
	for _, word := range strings.Split(s, ".") {
		n, _ := new(big.Int).SetString(word, 10)
		numbers = append(numbers, n)
	}
	x, y := numbers[0], numbers[1]
	if x.Cmp(big.NewInt(2)) > 0 || x.Cmp(big.NewInt(2)) < 0 && y.Cmp(big.NewInt(40)) >= 0 {
		return nil, api.ErrForm
	}
	for _, n := range numbers {
		if n.Cmp(big.NewInt(api.MaxArc)) > 0 {
			return nil, api.ErrLong
		}
	}
	b := modelSevens(new(big.Int).Add(new(big.Int).Mul(x, big.NewInt(40)), y))
	for _, n := range numbers[2:] {
		b = append(b, modelSevens(n)...)
	}
	return b, api.OK
}
