package wire

import (
	"reflect"
	"strings"
	"testing"

	"tompion/api"
)

// P12.1: the bytes of each kind.
func TestReadOfAllKinds(t *testing.T) {
	for _, m := range rightOnes() {
		checkRead(t, whole(plainText(m)), m, api.OK)
	}
}

// P12.1: only the kind's own fields are filled, and all of those.
func TestReadFillsTheFieldsOfTheKind(t *testing.T) {
	for kind := 1; kind <= 15; kind++ {
		m, e := Read(whole(plainText(full(kind))))
		if e != api.OK {
			t.Errorf("kind %d: error %d", kind, e)
		}
		v := reflect.ValueOf(m)
		for i := range v.NumField() {
			if name := v.Type().Field(i).Name; v.Field(i).IsZero() == has(kind, name) {
				t.Errorf("kind %d: %s is %v", kind, name, v.Field(i))
			}
		}
	}
}

// P12.1: bytes that were cut off, of the frame and of the text alone.
func TestReadOfCutBytes(t *testing.T) {
	for _, m := range rightOnes() {
		text := plainText(m)
		for size := range len(text) {
			checkNone(t, whole(text[:size]))
			checkNone(t, text[:size])
		}
		s := whole(text)
		for size := range len(s) {
			checkNone(t, s[:size])
			checkNone(t, s[len(s)-size:])
		}
	}
}

// P12.1: bytes that are left over, behind the sum and ahead of it.
func TestReadOfMoreBytes(t *testing.T) {
	for _, m := range rightOnes() {
		text := plainText(m)
		for _, more := range []string{"\x00", "\x01", "\x80", "\xff", "\x00\x00", "abcd", text} {
			if len(text)+len(more) > 1000 {
				continue
			}
			checkNone(t, whole(text+more))
			checkNone(t, whole(text)+more)
			checkNone(t, more+whole(text))
		}
		checkNone(t, whole(text)+sum(text))
		checkNone(t, whole(whole(text)))
	}
}

// P12.1: a right sum behind a Kind that is none.
func TestReadOfNoKind(t *testing.T) {
	for kind := range 256 {
		if kind >= 1 && kind <= 15 {
			continue
		}
		first := string([]byte{byte(kind)})
		checkNone(t, whole(first))
		checkNone(t, whole(first+"\x00"))
		checkNone(t, whole(first+"\x00\x00\x00"))
		checkNone(t, whole(first+"\x90\x03\xc8\x01\x00"))
		for other := 1; other <= 15; other++ {
			checkNone(t, whole(first+plainText(full(other))[1:]))
		}
	}
	checkNone(t, whole("\x81\x00\x00\x00\x00")) // a Kind is a byte, not a number of groups
}

// P12.1: a Flag is the byte 0 or 1.
func TestReadOfFlags(t *testing.T) {
	for flag := range 256 {
		s := whole("\x01\x00\x00\x00\x00" + string([]byte{byte(flag)}) + "\x00")
		if flag > 1 {
			checkNone(t, s)
		} else {
			checkRead(t, s, api.Msg{Kind: api.MBeat, Flag: flag == 1}, api.OK)
		}
	}
}

// P12.1: numbers with more bytes than they need, or more than there are.
func TestReadOfWrongNumbers(t *testing.T) {
	for kind := 1; kind <= 15; kind++ {
		for _, m := range []api.Msg{least(kind), full(kind)} {
			list := plainParts(m)
			for i := range list {
				for _, wrong := range []string{wider(list[i]), strings.Repeat("\xff", 9) + "\x02", strings.Repeat("\xff", 10), strings.Repeat("\x80", 10) + "\x00"} {
					x := append([]string{}, list...)
					x[i] = wrong
					s := strings.Join(x, "")
					if s == plainText(m) || isText(m, i) {
						continue
					}
					checkNone(t, whole(s))
				}
			}
		}
	}
}

// wider: a number with a byte more that says nothing.
func wider(n string) string {
	if n == "" {
		return n
	}
	last := len(n) - 1
	return n[:last] + string([]byte{n[last] | 128}) + "\x00"
}

// isText: whether the part at i of the message's bytes is a text, which may hold any bytes.
func isText(m api.Msg, i int) bool {
	return (m.Kind == api.MOp || m.Kind == api.MAsk) && i == len(plainParts(m))-1
}

// P12.1: more than 8 Fires, there or not.
func TestReadOfTooManyFires(t *testing.T) {
	for _, many := range []int{9, 10, 127, 128, 264, 1 << 32, 1<<63 - 1} {
		checkNone(t, whole("\x0e\x00\x00"+count(many)))
		checkNone(t, whole("\x0e\x00\x00"+count(many)+strings.Repeat("\x00", 6*min(many, 100))))
	}
	checkNone(t, whole("\x0e\x00\x00\xff\xff\xff\xff\xff\xff\xff\xff\xff\x01"))
	checkNone(t, whole("\x0e\x00\x00\x80\x80\x80\x80\x80\x80\x80\x80\x80\x01"))
	for many := range 9 {
		zeros := strings.Repeat("\x00", 6*many)
		checkRead(t, whole("\x0e\x00\x00"+count(many)+zeros), api.Msg{Kind: api.MFires, Fires: make([]api.Fire, many)}, api.OK)
		checkNone(t, whole("\x0e\x00\x00"+count(many)+zeros+"\x00"))
		checkNone(t, whole("\x0e\x00\x00"+count(many+1)+zeros))
	}
	// How many is a number without a sign: 16 isn't 8.
	checkNone(t, whole("\x0e\x00\x00"+number(8)+strings.Repeat("\x00", 6*8)))
}

// P12.1: an Op that may not be.
func TestReadOfWrongOps(t *testing.T) {
	for _, m := range []api.Msg{full(api.MOp), full(api.MAsk)} {
		head := strings.TrimSuffix(plainText(m), strings.Join(plainField(m.Op), ""))
		for kind := range 256 {
			x := m
			x.Op.Kind = kind
			s := whole(head + strings.Join(plainField(x.Op), ""))
			if kind > 3 {
				checkNone(t, s)
			} else {
				checkRead(t, s, x, api.OK)
			}
		}
		for size := 250; size < 300; size++ {
			x := m
			x.Op.Cron = strings.Repeat("\x80", size)
			s := whole(head + strings.Join(plainField(x.Op), ""))
			if size > 256 {
				checkNone(t, s)
			} else {
				checkRead(t, s, x, api.OK)
			}
		}
	}
}

// P12.1: a Conf that isn't right.
func TestReadOfWrongConfs(t *testing.T) {
	for _, c := range wrongChains() {
		if len(c.Chain) < 100 {
			checkNone(t, whole("\x02\x00"+strings.Join(plainField(c), "")+"\x00"))
		}
	}
	checkRead(t, whole("\x02\x00\x01\x01\x00\x01\x01\x00"), api.Msg{Kind: api.MConfig, Conf: chain(1, in(0, 1))}, api.OK)
	checkNone(t, whole("\x02\x00\x01\x01\x00\x01\x02\x00")) // a byte for Synced that is neither 0 nor 1
	checkNone(t, whole("\x02\x00\x01\xff\xff\xff\xff\xff\xff\xff\xff\xff\x01"))
}

// P12.1: bytes that aren't whole, or whole and nothing.
func TestReadOfNoMessage(t *testing.T) {
	for _, s := range []string{"", "a", "abc", "abcd", "\x00\x00\x00\x00", "\x0f\x00\x00\x00", "\xff\xff\xff\xff", whole(""), "\x0f\x00\x00\x00\x00\x00\x00\x00"} {
		checkNone(t, s)
	}
	text := "\x0f\x90\x03\xc8\x01\x00"
	turned := []byte(sum(text))
	turned[0], turned[1], turned[2], turned[3] = turned[3], turned[2], turned[1], turned[0]
	checkNone(t, text+string(turned))
	checkNone(t, text)
}

// P12.1: texts of 1024 bytes, and longer ones, whole or not.
func TestReadOfLongTexts(t *testing.T) {
	for _, size := range []int{1019, 1020} {
		checkNone(t, whole(strings.Repeat("\x0f", size)))
		checkNone(t, strings.Repeat("\x00", size+4))
	}
	for _, size := range []int{1021, 1022, 5000, 1 << 20} {
		checkRead(t, whole(strings.Repeat("\x0f", size)), api.Msg{}, api.ErrLong)
		checkRead(t, strings.Repeat("\x00", size+4), api.Msg{}, api.ErrLong)
	}
	where := "\x0f\x90\x03\xc8\x01\x00"
	checkNone(t, whole(where+strings.Repeat("\x00", 1024-4-len(where))))
	checkRead(t, whole(where+strings.Repeat("\x00", 1025-4-len(where))), api.Msg{}, api.ErrLong)
	checkRead(t, whole(where)+strings.Repeat("x", 1025), api.Msg{}, api.ErrLong)
}

// P12.1: what is answered is new memory.
func TestReadAnswersNewMemory(t *testing.T) {
	for _, m := range []api.Msg{full(api.MConfig), full(api.MFires)} {
		s := whole(plainText(m))
		a, _ := Read(s)
		b, _ := Read(s)
		for i := range a.Conf.Chain {
			a.Conf.Chain[i] = api.Seat{}
		}
		for i := range a.Fires {
			a.Fires[i] = api.Fire{}
		}
		if !same(b, m) {
			t.Errorf("changed with another answer: %s", short(b))
		}
		checkRead(t, s, m, api.OK)
	}
}
