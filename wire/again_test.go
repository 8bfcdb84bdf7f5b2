package wire

import (
	"encoding/binary"
	"math/rand"
	"reflect"
	"strings"
	"testing"

	"tompion/api"
)

// anyNumber: small and great ones, with either sign.
func anyNumber(r *rand.Rand) int {
	return int(r.Uint64()>>r.Intn(64)) * (1 - 2*r.Intn(2))
}

func anyText(r *rand.Rand, most int) string {
	b := make([]byte, r.Intn(most+1))
	r.Read(b)
	return string(b)
}

// anyChain: a right one.
func anyChain(r *rand.Rand) api.Config {
	c := api.Config{Epoch: 1 + r.Intn(1<<40)>>r.Intn(40)}
	for _, node := range r.Perm(8)[:1+r.Intn(8)] {
		c.Chain = append(c.Chain, api.Seat{M: who(node, 1+r.Intn(1<<40)>>r.Intn(40)), Synced: r.Intn(2) == 0})
	}
	c.Chain[0].Synced = true
	return c
}

// anyOne: a message that may be.
func anyOne(r *rand.Rand) api.Msg {
	m := api.Msg{Conf: chain(0, api.Seat{}), Fires: make([]api.Fire, r.Intn(9))}
	for _, l := range leaves(m) {
		switch v := l.of(&m); v.Kind() {
		case reflect.Bool:
			v.SetBool(r.Intn(2) == 0)
		case reflect.String:
			v.SetString(anyText(r, 256))
		default:
			v.SetInt(int64(anyNumber(r)))
		}
	}
	m.Kind = 1 + r.Intn(15)
	m.Op.Kind = r.Intn(4)
	m.Conf = anyChain(r)
	return cut(m)
}

// plainRight: whether it may be, in the words of the document, one by one.
func plainRight(m api.Msg) bool {
	if m.Kind < 1 || m.Kind > 15 || !same(m, cut(m)) || len(m.Fires) > 8 || m.Op.Kind < 0 || m.Op.Kind > 3 || len(m.Op.Cron) > 256 {
		return false
	}
	return m.Kind != api.MConfig || plainRightChain(m.Conf)
}

func plainRightChain(c api.Config) bool {
	nodes := map[int]int{}
	for _, seat := range c.Chain {
		nodes[seat.M.Node]++
		if seat.M.Node < 0 || seat.M.Node > 7 || seat.M.Life < 1 || seat.M.Life > 1<<40 {
			return false
		}
	}
	return c.Epoch >= 1 && c.Epoch <= 1<<40 && len(c.Chain) >= 1 && len(nodes) == len(c.Chain) && c.Chain[0].Synced
}

// plainReader: it takes what it needs from bytes, and is lost where there is none.
type plainReader struct {
	rest string
	lost bool
}

func (p *plainReader) byte() byte {
	if p.rest == "" {
		p.lost = true
		return 0
	}
	b := p.rest[0]
	p.rest = p.rest[1:]
	return b
}

func (p *plainReader) count() uint64 {
	n, size := binary.Uvarint([]byte(p.rest))
	if size <= 0 || !strings.HasPrefix(p.rest, string(binary.AppendUvarint(nil, n))) {
		p.lost, p.rest = true, ""
		return 0
	}
	p.rest = p.rest[size:]
	return n
}

func (p *plainReader) fill(places ...reflect.Value) {
	for _, v := range places {
		n := p.count()
		v.SetInt(int64(n>>1) ^ -int64(n&1))
	}
}

// fields: the numbers with a sign of a struct, from the one at place i on.
func (p *plainReader) fields(v reflect.Value, i int) {
	for ; i < v.NumField(); i++ {
		p.fill(v.Field(i))
	}
}

func (p *plainReader) text() string {
	n := p.count()
	if n > uint64(len(p.rest)) {
		p.lost = true
		return ""
	}
	s := p.rest[:n]
	p.rest = p.rest[n:]
	return s
}

func (p *plainReader) flag() bool {
	b := p.byte()
	p.lost = p.lost || b > 1
	return b == 1
}

func (p *plainReader) op() api.Op {
	var o api.Op
	o.Kind = int(p.byte())
	p.fill(reflect.ValueOf(&o.Client).Elem(), reflect.ValueOf(&o.Req).Elem(), reflect.ValueOf(&o.Id).Elem(), reflect.ValueOf(&o.Gen).Elem(),
		reflect.ValueOf(&o.Occ).Elem(), reflect.ValueOf(&o.Due).Elem(), reflect.ValueOf(&o.Stamp).Elem(), reflect.ValueOf(&o.Epoch).Elem())
	o.Cron = p.text()
	return o
}

func (p *plainReader) chain() api.Config {
	c := api.Config{Epoch: int(p.count())}
	for n := p.count(); n > 0 && !p.lost; n-- {
		c.Chain = append(c.Chain, api.Seat{M: who(int(p.count()), int(p.count())), Synced: p.flag()})
	}
	return c
}

func (p *plainReader) fires() []api.Fire {
	var list []api.Fire
	for n := p.count(); n > 0 && !p.lost; n-- {
		var f api.Fire
		p.fields(reflect.ValueOf(&f).Elem(), 0)
		list = append(list, f)
	}
	return list
}

// plainRead: the message of a text, worked out without the layers below; false, if there is none.
func plainRead(text string) (api.Msg, bool) {
	p := &plainReader{rest: text}
	m := api.Msg{Kind: int(p.byte())}
	if m.Kind < 1 || m.Kind > 15 {
		return api.Msg{}, false
	}
	v := reflect.ValueOf(&m).Elem()
	p.fill(v.FieldByName("To"))
	for _, name := range strings.Fields(rows[m.Kind]) {
		switch field := v.FieldByName(name); name {
		case "From", "Reply":
			p.fields(field, 0)
		case "Flag":
			m.Flag = p.flag()
		case "Op":
			m.Op = p.op()
		case "Conf":
			m.Conf = p.chain()
		case "Fires":
			m.Fires = p.fires()
		default:
			p.fill(field)
		}
	}
	if p.lost || p.rest != "" || !plainRight(m) {
		return api.Msg{}, false
	}
	return m, true
}

// checkAgain: it is printed as the document says, is read as it was, and printed again the same.
func checkAgain(t *testing.T, m api.Msg) string {
	t.Helper()
	s, e := Print(m)
	if e != api.OK || s != whole(plainText(m)) {
		t.Fatalf("Print(%s): %x, %d, want %x", short(m), s, e, whole(plainText(m)))
	}
	got, e := Read(s)
	if e != api.OK || !Same(got, m) || !same(got, m) {
		t.Fatalf("Read(%x): %s, %d, want %s", s, short(got), e, short(m))
	}
	if again, e := Print(got); again != s || e != api.OK {
		t.Fatalf("printed again: %x, %d, want %x", again, e, s)
	}
	return s
}

// P12.1, P12.2: what is printed is read as it was, and printed again the same.
func TestWhatIsPrintedIsReadAsItWas(t *testing.T) {
	for _, m := range rightOnes() {
		checkAgain(t, m)
	}
	r := rand.New(rand.NewSource(1))
	for range 20000 {
		checkAgain(t, anyOne(r))
	}
}

// P12.2: with each one byte changed, to each other one, it isn't a message.
func TestOneByteChanged(t *testing.T) {
	for kind := 1; kind <= 15; kind++ {
		for _, m := range []api.Msg{least(kind), full(kind)} {
			checkChanged(t, whole(plainText(m)), 1)
		}
		checkChanged(t, whole(plainText(greatest(kind))), 51)
	}
}

// checkChanged: none of the texts that differ from s in one byte is a message; each one is looked at, or one in so many.
func checkChanged(t *testing.T, s string, step int) {
	t.Helper()
	b := []byte(s)
	for i := range b {
		for change := 1; change < 256; change += step {
			b[i] ^= byte(change)
			checkNone(t, string(b))
			b[i] ^= byte(change)
		}
	}
}

// P12.1: Print answers bytes of those messages that may be, and of none beside them.
func TestPrintOfAnyMessages(t *testing.T) {
	r := rand.New(rand.NewSource(2))
	right := 0
	for range 20000 {
		m := anyOne(r)
		spoil(r, &m)
		if plainRight(m) {
			right++
			checkAgain(t, m)
		} else {
			checkWrong(t, m)
		}
	}
	if right < 1000 || right > 19000 {
		t.Errorf("%d of 20000 may be", right)
	}
}

// spoil: changes one thing of it, which it may have or not.
func spoil(r *rand.Rand, m *api.Msg) {
	list := leaves(*m)
	v := list[r.Intn(len(list))].of(m)
	if v.CanInt() && r.Intn(2) == 0 {
		v.SetInt(int64(r.Intn(20) - 2))
		return
	}
	alter(v)
}

// P12.1: of any text with a right sum, Read answers the message that has just these bytes, or that there is none.
func TestReadOfAnyTexts(t *testing.T) {
	r := rand.New(rand.NewSource(3))
	right := 0
	for range 60000 {
		text := bent(r, plainText(anyOne(r)))
		if len(text) > 1020 {
			continue
		}
		want, ok := plainRead(text)
		if !ok {
			checkNone(t, whole(text))
			continue
		}
		right++
		checkRead(t, whole(text), want, api.OK)
		checkPrint(t, want, whole(text), api.OK)
	}
	if right < 5000 || right > 55000 {
		t.Errorf("%d of 60000 are messages", right)
	}
}

// bent: a text with a byte or two changed, taken out or put in.
func bent(r *rand.Rand, text string) string {
	b := []byte(text)
	for range 1 + r.Intn(2) {
		i := r.Intn(len(b))
		switch r.Intn(4) {
		case 0:
			b = append(b[:i:i], b[i+1:]...)
			if len(b) == 0 {
				return ""
			}
		case 1:
			b = append(b[:i:i], append([]byte{byte(r.Intn(256))}, b[i:]...)...)
		default:
			b[i] ^= byte(1 << r.Intn(8))
		}
	}
	return string(b)
}

// P12.1: all texts of at most two bytes, and many longer ones, with a right sum.
func TestReadOfShortTexts(t *testing.T) {
	var list []string
	for a := range 256 {
		list = append(list, string([]byte{byte(a)}))
		for b := range 256 {
			list = append(list, string([]byte{byte(a), byte(b)}))
		}
	}
	small := []byte{0, 1, 2, 3, 9, 127, 128, 255}
	for kind := range 17 {
		for n := range 1 << 15 {
			b := []byte{byte(kind)}
			for x := n; x > 0; x >>= 3 {
				b = append(b, small[x&7])
			}
			list = append(list, string(b))
		}
	}
	for _, text := range list {
		want, ok := plainRead(text)
		if ok {
			checkRead(t, whole(text), want, api.OK)
		} else {
			checkNone(t, whole(text))
		}
	}
}
