package realm_test

import (
	"encoding/hex"
	"fmt"
	"math/rand"
	"reflect"
	"slices"
	"strings"
	"testing"

	"chirograph/api"
	"chirograph/realm"
)

type set = []api.Atv

type row = []set

// hx has the bytes of hexadecimal digits; blanks are left out.
func hx(s string) []byte {
	b, err := hex.DecodeString(strings.ReplaceAll(s, " ", ""))
	if err != nil {
		panic(err)
	}
	return b
}

func pick[T any](r *rand.Rand, l ...T) T {
	return l[r.Intn(len(l))]
}

// often is a list of one thing, n times.
func often[T any](n int, x T) []T {
	return slices.Repeat([]T{x}, n)
}

func atv(kind string, tag int, data string) api.Atv {
	return api.Atv{Type: kind, Tag: tag, Data: []byte(data)}
}

// cn is a part that says s.
func cn(s string) api.Atv {
	return atv("2.5.4.3", api.TagUtf8, s)
}

const oidMail = "1.2.840.113549.1.9.1"

// post is a part that says an address of mail.
func post(s string) api.Atv {
	return atv(oidMail, api.TagIa5, s)
}

func mail(s string) api.Gen {
	return api.Gen{Kind: api.GenMail, Text: s}
}

func dns(s string) api.Gen {
	return api.Gen{Kind: api.GenDns, Text: s}
}

func dir(sets ...set) api.Gen {
	return api.Gen{Kind: api.GenDir, Dir: sets}
}

func ip(digits string) api.Gen {
	return api.Gen{Kind: api.GenIp, Ip: hx(digits)}
}

func gens(l ...api.Gen) []api.Gen {
	return l
}

// texts are all that have up to most of these letters.
func texts(most int, letters ...string) []string {
	l, last := []string{""}, []string{""}
	for range most {
		var next []string
		for _, s := range last {
			for _, c := range letters {
				next = append(next, s+c)
			}
		}
		l, last = append(l, next...), next
	}
	return l
}

func shown(v any) string {
	s := fmt.Sprintf("%+q", v)
	return s[:min(len(s), 400)]
}

// evened has nil for each empty list, however deep.
func evened(v reflect.Value) {
	switch v.Kind() {
	case reflect.Struct:
		for i := range v.NumField() {
			evened(v.Field(i))
		}
	case reflect.Slice:
		if v.Len() == 0 {
			v.SetZero()
		}
		for i := range v.Len() {
			evened(v.Index(i))
		}
	}
}

// same asks whether two lists of names are, nil and empty lists being alike. It
// evens copies, so that both stay as they are.
func same(a, b []api.Gen) bool {
	a, b = deep(a, 0), deep(b, 0)
	evened(reflect.ValueOf(&a).Elem())
	evened(reflect.ValueOf(&b).Elem())
	return reflect.DeepEqual(a, b)
}

// roomy is l in other memory, with so much spare room, in which x stands.
func roomy[T any](l []T, room int, x T) []T {
	return append(append(make([]T, 0, len(l)+room), l...), often(room, x)...)[:len(l)]
}

func deepDir(n row, room int) row {
	l := roomy(n, room, set{cn("spare")})
	for i, s := range whole(l) {
		l[:cap(l)][i] = roomy(s, room, cn("room"))
		for j, x := range whole(whole(l)[i]) {
			whole(whole(l)[i])[j].Data = roomy(x.Data, room, 'x')
		}
	}
	return l
}

// deep has names in other memory, with spare room in each of their lists.
func deep(names []api.Gen, room int) []api.Gen {
	l := roomy(names, room, mail("a@spare"))
	for i, g := range whole(l) {
		whole(l)[i].Ip = roomy(g.Ip, room, 7)
		whole(l)[i].Dir = deepDir(g.Dir, room)
	}
	return l
}

func whole[T any](l []T) []T {
	return l[:cap(l)]
}

func wantHost(t *testing.T, host, base string, asked bool) {
	t.Helper()
	if got := realm.Host(host, base); got != asked {
		t.Errorf("Host(%q, %q): %v", host, base, got)
	}
}

func wantMail(t *testing.T, addr, base string, asked bool) {
	t.Helper()
	if got := realm.Mail(addr, base); got != asked {
		t.Errorf("Mail(%q, %q): %v", addr, base, got)
	}
}

func wantNet(t *testing.T, ip, base []byte, asked bool) {
	t.Helper()
	if got := realm.Net(ip, base); got != asked {
		t.Errorf("Net(%x, %x): %v", ip, base, got)
	}
}

func wantMatch(t *testing.T, g, base api.Gen, asked bool) {
	t.Helper()
	if got := realm.Match(g, base); got != asked {
		t.Errorf("Match(%s, %s): %v", shown(g), shown(base), got)
	}
}

func wantAllowed(t *testing.T, names, permitted, excluded []api.Gen, asked bool) {
	t.Helper()
	if got := realm.Allowed(names, permitted, excluded); got != asked {
		t.Errorf("Allowed(%s, %s, %s): %v", shown(names), shown(permitted), shown(excluded), got)
	}
}

func wantNames(t *testing.T, what string, c api.Cert, asked ...api.Gen) {
	t.Helper()
	if got := realm.Names(c); !same(got, asked) {
		t.Errorf("%s: Names: %s; wanted %s", what, shown(got), shown(asked))
	}
}
