package layout_test

import (
	"strconv"
	"testing"

	"skylark/api"
	"skylark/layout"
)

// chains are those of the keys a to z, as digits.
func chains(t *testing.T, c layout.Change) string {
	t.Helper()
	s := ""
	for _, key := range letters() {
		s += strconv.Itoa(owner(t, c, key))
	}
	return s
}

// Promise 7.2: keys below the cursor lie by Will, others by Was; at the end all lie by Will.
func TestOwner(t *testing.T) {
	narrow := layout.Change{Was: lay(8, 3, 0, 2), Will: lay(9, 0, 5, 2, 1)}
	for _, x := range []struct {
		c         layout.Change
		was, will string
	}{{widened(), by20and20, by20thrice}, {narrow, by3and0and2, by0and5}} {
		if got := chains(t, x.c); got != x.was {
			t.Error(got)
		}
		for i, key := range letters() {
			if got, want := chains(t, at(x.c, key)), x.will[:i]+x.was[i:]; got != want {
				t.Errorf("cursor %s: %s, not %s", key, got, want)
			}
			if got, want := chains(t, at(x.c, key+"\x00")), x.will[:i+1]+x.was[i+1:]; got != want {
				t.Errorf("cursor behind %s: %s, not %s", key, got, want)
			}
		}
		if got := chains(t, done(x.c)); got != x.will {
			t.Error(got)
		}
	}
}

// Promise 7.2: the cursor parts texts byte by byte, a beginning ahead of what goes on; any text has a chain.
func TestOwnerEdges(t *testing.T) {
	c := layout.Change{Was: lay(1, 1), Will: lay(2, 0, 1)}
	for _, x := range []struct {
		cursor, key string
		want        int
	}{
		{"", "", 0}, {"", "\x00", 0}, {"", "z", 0}, {"a", "", 1}, {"m", "a", 1}, {"m", "z", 0}, {"m", "m", 0}, {"m", "m\x00", 0},
		{"m", "lzzzz", 1}, {"mm", "m", 1}, {"\xff", "é", 1}, {"\x80", "\x7f", 1}, {"\x7f", "\x80", 0}, {"B", "a", 0}, {"a", "B", 1},
		{long(api.MaxKey), long(api.MaxKey), 0}, {long(api.MaxKey), long(api.MaxKey - 1), 1}, {long(api.MaxKey), long(5000), 0}, {"z", long(5000), 1},
	} {
		if got := owner(t, at(c, x.cursor), x.key); got != x.want {
			t.Errorf("%q %q: %d", x.cursor, x.key, got)
		}
	}
	for _, key := range []string{"", "a", "\xff\xff", long(5000)} {
		if got := owner(t, done(c), key); got != 1 {
			t.Errorf("%q: %d", key, got)
		}
	}
}

// Promise 7.2: the cursor goes on or stays, never back, and has at most api.MaxKey bytes; all else is as it was.
func TestTo(t *testing.T) {
	c := at(widened(), "m")
	for _, cursor := range []string{"m", "m\x00", "n", "ma", "\xff", "z" + long(api.MaxKey-1)} {
		x, e := c.To(cursor)
		if e != api.OK || x.Cursor != cursor || x.Done || !layout.Equal(x.Was, c.Was) || !layout.Equal(x.Will, c.Will) {
			t.Errorf("%q: %v %v", cursor, x, e)
		}
		if x.Check() != api.OK {
			t.Error(x)
		}
	}
	if c.Cursor != "m" {
		t.Error(c)
	}
	for _, cursor := range []string{"", "l", "lz", "L", "\x00", "z" + long(api.MaxKey), long(api.MaxKey + 1), long(5000)} {
		if x, e := c.To(cursor); e != api.ErrRange || !isZero(x) {
			t.Errorf("%q: %v %v", cursor, x, e)
		}
	}
	for _, cursor := range []string{"", "\x00", "a"} {
		if x, e := widened().To(cursor); e != api.OK || x.Cursor != cursor {
			t.Errorf("%q: %v %v", cursor, x, e)
		}
	}
	for _, cursor := range []string{"", "a", long(api.MaxKey)} {
		if x, e := done(c).To(cursor); e != api.ErrRange || !isZero(x) {
			t.Errorf("%q: %v %v", cursor, x, e)
		}
	}
}

// Promise 7.2: there is an end when it is said, not sooner.
func TestEnd(t *testing.T) {
	for _, c := range []layout.Change{widened(), at(widened(), "z"), at(widened(), long(api.MaxKey))} {
		if l, e := c.End(); e != api.ErrRange || !layout.Equal(l, api.Layout{}) {
			t.Error(c, l, e)
		}
		if l, e := done(c).End(); e != api.OK || !layout.Equal(l, c.Will) {
			t.Error(c, l, e)
		}
	}
}
