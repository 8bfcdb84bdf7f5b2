package next

import (
	"strings"
	"sync"
	"sync/atomic"

	"tompion/api"
	"tompion/cron"
)

// Cache: the next time of texts, each of which is parsed once, by whoever asks for it first. Several may ask at the same time.
type Cache struct {
	asked, parsed atomic.Int64
	lock          sync.Mutex // of the map alone: nobody waits for it while a text is parsed
	known         map[string]*reading
}

// reading: what cron.Parse says of a text. A refused one is kept, too, so that it isn't parsed again.
type reading struct {
	once sync.Once
	spec api.Spec
	e    api.Errno
}

// New: none yet.
func New() *Cache { return &Cache{} }

// Next: the first time of a text behind a second.
func (c *Cache) Next(text string, after int) (at int, e api.Errno) {
	if c == nil {
		return 0, api.ErrNil
	}
	c.asked.Add(1)
	r := c.readingOf(text)
	r.once.Do(func() {
		r.spec, r.e = cron.Parse(text)
		c.parsed.Add(1)
	})
	if r.e != api.OK {
		return 0, r.e
	}
	at, ok := Next(r.spec, after)
	if !ok {
		return 0, api.ErrNone
	}
	return at, api.OK
}

// Counts: how often it was asked, and how many texts were parsed.
func (c *Cache) Counts() (asked, parsed int) {
	if c == nil {
		return 0, 0
	}
	return int(c.asked.Load()), int(c.parsed.Load())
}

// readingOf: the one that all who ask for a text share.
func (c *Cache) readingOf(text string) *reading {
	c.lock.Lock()
	defer c.lock.Unlock()
	r := c.known[text]
	if r == nil {
		r = &reading{}
		// A map that New had made would be missing in a Cache that New didn't make.
		if c.known == nil {
			c.known = map[string]*reading{}
		}
		// A copy, because a piece of a long text would keep all of it.
		c.known[strings.Clone(text)] = r
	}
	return r
}
