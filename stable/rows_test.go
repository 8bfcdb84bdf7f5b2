package stable

import (
	"math/rand"
	"slices"
	"testing"

	"tompion/api"
)

// plainLog: a log that keeps records as records, and knows of its bytes only how many there are.
type plainLog struct {
	list    []string
	whole   int // bytes of the list
	torn    int
	crashed bool
}

func (p *plainLog) size() int { return p.whole + p.torn }

func (p *plainLog) write(s string, keep int, crash bool) api.Errno {
	all := len(plainBytes(s))
	switch {
	case len(s) > 1024:
		return api.ErrLong
	case p.crashed:
		return api.ErrState
	case p.size()+all > most:
		return api.ErrFull
	}
	p.crashed = crash
	if !crash || keep >= all {
		p.list = append(p.list, s)
		p.whole += all
	} else {
		p.torn = max(keep, 0)
	}
	return api.OK
}

func (p *plainLog) recover() { p.torn, p.crashed = 0, false }

func (p *plainLog) copy() *plainLog {
	return &plainLog{slices.Clone(p.list), p.whole, p.torn, p.crashed}
}

// anyText: mostly short ones, of any bytes; now and then one that is near to how long it may be, or a record's own bytes.
func anyText(r *rand.Rand) string {
	n := r.Intn(9)
	switch r.Intn(8) {
	case 0:
		n = 1020 + r.Intn(8)
	case 1:
		n = r.Intn(1024)
	case 2:
		return Bytes("within")[:r.Intn(11)+1]
	}
	b := make([]byte, n)
	r.Read(b)
	return string(b)
}

// P7.2, P7.3, P7.4: rows of calls, on logs and their copies, answer what plain lists would, in full logs, too.
func TestRowsOfCalls(t *testing.T) {
	met := map[api.Errno]int{}
	for seed := range 16 {
		r := rand.New(rand.NewSource(int64(seed)))
		logs, plain := []*Log{New()}, []*plainLog{{}}
		if seed%2 == 1 {
			l, list := nearlyFull()
			logs[0], plain[0] = l, &plainLog{list: list, whole: l.Size()}
		}
		for range 400 {
			i := r.Intn(len(logs))
			met[oneCall(t, r, logs[i], plain[i])]++
			if r.Intn(50) == 0 {
				logs, plain = append(logs, logs[i].Copy()), append(plain, plain[i].copy())
			}
			if len(logs) > 3 {
				j := r.Intn(3)
				logs, plain = slices.Delete(logs, j, j+1), slices.Delete(plain, j, j+1)
			}
			if t.Failed() {
				t.Fatalf("seed %d", seed)
			}
		}
		for i := range logs {
			checkIs(t, logs[i], plain[i].torn, plain[i].list...)
		}
	}
	for _, e := range []api.Errno{api.OK, api.ErrLong, api.ErrState, api.ErrFull} {
		if met[e] < 100 {
			t.Errorf("the rows met the error %d only %d times", e, met[e])
		}
	}
}

// oneCall: any call on both; what it is to answer.
func oneCall(t *testing.T, r *rand.Rand, l *Log, p *plainLog) (e api.Errno) {
	t.Helper()
	s := anyText(r)
	switch r.Intn(12) {
	case 0, 1:
		keep := r.Intn(len(plainBytes(s))+3) - 1
		e = p.write(s, keep, true)
		checkCrash(t, l, s, keep, e)
	case 2, 3, 4:
		p.recover()
		checkRecover(t, l, p.list...)
	case 5:
		checkIs(t, l, p.torn, p.list...)
	default:
		e = p.write(s, 0, false)
		checkAppend(t, l, s, e)
	}
	if got := l.Size(); got != p.size() {
		t.Errorf("Size: %d, want %d", got, p.size())
	}
	return e
}
