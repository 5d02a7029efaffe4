package hub_test

import (
	"strings"
	"testing"

	"hub/hub"
)

// The oracle below follows the document's words by splitting texts into
// levels, where the program goes byte by byte.

func oracleSigns(level string) bool {
	return strings.Trim(level, "abcdefghijklmnopqrstuvwxyz0123456789$") == ""
}

func oracleTopic(t string) bool {
	if t == "" {
		return false
	}
	for _, level := range strings.Split(t, "/") {
		if !oracleSigns(level) {
			return false
		}
	}
	return true
}

func oracleFilter(f string) bool {
	levels := strings.Split(f, "/")
	if f == "" || len(levels) > 5 {
		return false
	}
	for i, level := range levels {
		last := i == len(levels)-1
		if !oracleSigns(level) && level != "+" && !(last && level == "#") {
			return false
		}
	}
	return true
}

// beginsFilter tells whether a filter begins with p. If one does, p is one
// itself, or becomes one by a single byte more: both are tried.
func beginsFilter(p string) bool {
	for _, more := range []string{"", "a", "/", "+", "#"} {
		if oracleFilter(p + more) {
			return true
		}
	}
	return false
}

func oracleCheckTopic(t string) (hub.Errno, int) {
	if len(t) > 24 {
		return hub.ErrLong, 0
	}
	if oracleTopic(t) {
		return hub.OK, 0
	}
	for i := range len(t) {
		if !oracleTopic(t[i : i+1]) {
			return hub.ErrTopic, i
		}
	}
	return hub.ErrTopic, 0
}

func oracleCheckFilter(f string) (hub.Errno, int) {
	if len(f) > 24 {
		return hub.ErrLong, 0
	}
	if oracleFilter(f) {
		return hub.OK, 0
	}
	for i := range len(f) {
		if !beginsFilter(f[:i+1]) {
			return hub.ErrFilter, i
		}
	}
	return hub.ErrFilter, 0
}

func oracleLevels(f []string, t []string) bool {
	if len(f) == 0 {
		return len(t) == 0
	}
	if f[0] == "#" {
		return true
	}
	return len(t) > 0 && (f[0] == "+" || f[0] == t[0]) && oracleLevels(f[1:], t[1:])
}

func oracleMatch(f string, t string) bool {
	levels := strings.Split(f, "/")
	if (levels[0] == "+" || levels[0] == "#") && strings.HasPrefix(t, "$") {
		return false
	}
	return oracleLevels(levels, strings.Split(t, "/"))
}

// texts answers all texts over the alphabet of at most most bytes.
func texts(alphabet string, most int) []string {
	all := []string{""}
	from := 0
	for range most {
		to := len(all)
		for _, p := range all[from:to] {
			for _, c := range []byte(alphabet) {
				all = append(all, p+string([]byte{c}))
			}
		}
		from = to
	}
	return all
}

type checkCase struct {
	text  string
	err   hub.Errno
	place int
}

func TestCheckTopicCases(t *testing.T) {
	for _, c := range []checkCase{
		{"a", hub.OK, 0},
		{"az09$", hub.OK, 0},
		{"a/b/c", hub.OK, 0},
		{"/", hub.OK, 0},
		{"a/", hub.OK, 0},
		{"/a", hub.OK, 0},
		{"a//b", hub.OK, 0},
		{"$", hub.OK, 0},
		{"$sys/a", hub.OK, 0},
		{"a/$/$b", hub.OK, 0},
		{strings.Repeat("/", 24), hub.OK, 0},
		{strings.Repeat("z", 24), hub.OK, 0},
		{"a/b/c/d/e/f/g", hub.OK, 0},
		{"", hub.ErrTopic, 0},
		{"+", hub.ErrTopic, 0},
		{"a/+", hub.ErrTopic, 2},
		{"a/#", hub.ErrTopic, 2},
		{"a+#", hub.ErrTopic, 1},
		{"/B", hub.ErrTopic, 1},
		{"a/b\x00", hub.ErrTopic, 3},
		{"a/\x7f", hub.ErrTopic, 2},
		{"a\xff", hub.ErrTopic, 1},
		{"aé", hub.ErrTopic, 1},
		{strings.Repeat("a", 23) + "A", hub.ErrTopic, 23},
		{strings.Repeat("a", 25), hub.ErrLong, 0},
		{strings.Repeat("/", 25), hub.ErrLong, 0},
		{strings.Repeat("+", 25), hub.ErrLong, 0},
	} {
		err, place := hub.CheckTopic(c.text)
		if err != c.err || place != c.place {
			t.Errorf("P3: CheckTopic(%q) = %d %d, want %d %d", c.text, err, place, c.err, c.place)
		}
	}
}

func TestCheckFilterCases(t *testing.T) {
	for _, c := range []checkCase{
		{"a", hub.OK, 0},
		{"az09$/$", hub.OK, 0},
		{"/", hub.OK, 0},
		{"a/", hub.OK, 0},
		{"a//b", hub.OK, 0},
		{"+", hub.OK, 0},
		{"#", hub.OK, 0},
		{"/#", hub.OK, 0},
		{"+/", hub.OK, 0},
		{"a/+/b", hub.OK, 0},
		{"a/+", hub.OK, 0},
		{"+/+/+/+/+", hub.OK, 0},
		{"+/+/+/+/#", hub.OK, 0},
		{"////", hub.OK, 0},
		{"////#", hub.OK, 0},
		{"$share/g/#", hub.OK, 0},
		{strings.Repeat("a", 24), hub.OK, 0},
		{strings.Repeat("a", 22) + "/#", hub.OK, 0},
		{"", hub.ErrFilter, 0},
		{"A", hub.ErrFilter, 0},
		{"a b", hub.ErrFilter, 1},
		{"a+", hub.ErrFilter, 1},
		{"+a", hub.ErrFilter, 1},
		{"+$", hub.ErrFilter, 1},
		{"++", hub.ErrFilter, 1},
		{"+#", hub.ErrFilter, 1},
		{"a#", hub.ErrFilter, 1},
		{"#a", hub.ErrFilter, 1},
		{"##", hub.ErrFilter, 1},
		{"#+", hub.ErrFilter, 1},
		{"#/", hub.ErrFilter, 1},
		{"a/#/", hub.ErrFilter, 3},
		{"a/#/b+", hub.ErrFilter, 3},
		{"a/+b/c", hub.ErrFilter, 3},
		{"/////", hub.ErrFilter, 4},
		{"a/b/c/d/e/", hub.ErrFilter, 9},
		{"a/b/c/d/+/#", hub.ErrFilter, 9},
		{"a/b/c/d/#/", hub.ErrFilter, 9},
		{"a\xff", hub.ErrFilter, 1},
		{"aé", hub.ErrFilter, 1},
		{strings.Repeat("a", 23) + "#", hub.ErrFilter, 23},
		{strings.Repeat("a", 25), hub.ErrLong, 0},
		{strings.Repeat("#", 25), hub.ErrLong, 0},
	} {
		err, place := hub.CheckFilter(c.text)
		if err != c.err || place != c.place {
			t.Errorf("P3: CheckFilter(%q) = %d %d, want %d %d", c.text, err, place, c.err, c.place)
		}
	}
}

func TestEachByte(t *testing.T) {
	for c := range 256 {
		one := string([]byte{byte(c)})
		for _, text := range []string{one, "a" + one, "a/" + one, "+" + one, "#" + one, one + "a"} {
			sameAsOracle(t, text)
		}
	}
}

func TestAllShortTexts(t *testing.T) {
	for _, text := range texts("a9$/+#A", 6) {
		sameAsOracle(t, text)
	}
	for _, text := range texts("/+#", 9) {
		sameAsOracle(t, text)
	}
}

func sameAsOracle(t *testing.T, text string) {
	err, place := hub.CheckTopic(text)
	wantErr, wantPlace := oracleCheckTopic(text)
	if err != wantErr || place != wantPlace {
		t.Errorf("P3: CheckTopic(%q) = %d %d, want %d %d", text, err, place, wantErr, wantPlace)
	}
	err, place = hub.CheckFilter(text)
	wantErr, wantPlace = oracleCheckFilter(text)
	if err != wantErr || place != wantPlace {
		t.Errorf("P3: CheckFilter(%q) = %d %d, want %d %d", text, err, place, wantErr, wantPlace)
	}
}

func TestMatchCases(t *testing.T) {
	for _, c := range []struct {
		filter string
		topic  string
		want   bool
	}{
		{"a/b", "a/b", true},
		{"a/b", "a/c", false},
		{"a", "a/", false},
		{"a/", "a", false},
		{"a/", "a/", true},
		{"ab", "a", false},
		{"a", "ab", false},
		{"a//b", "a//b", true},
		{"a/+/b", "a//b", true},
		{"a/+/b", "a/x/b", true},
		{"a/+/b", "a/b", false},
		{"a/+/b", "a/x/y/b", false},
		{"a/+", "a", false},
		{"+", "a/", false},
		{"+/", "a/", true},
		{"+/+", "/", true},
		{"+", "/", false},
		{"/", "/", true},
		{"/+", "/", true},
		{"/#", "/", true},
		{"/#", "/a/b", true},
		{"/#", "a", false},
		{"#", "/", true},
		{"#", "a", true},
		{"a/#", "a", true},
		{"a/#", "a/", true},
		{"a/#", "a/b/c", true},
		{"a/#", "b", false},
		{"a/#", "ab/c", false},
		{"a/b/#", "a", false},
		{"a/+/#", "a", false},
		{"a/+/#", "a/", true},
		{"+/+/+/+/#", "a/b/c/d", true},
		{"+/+/+/+/#", "a/b/c", false},
		{"#", strings.Repeat("/", 24), true},
		{"+/+/+/+/+", "a/b/c/d/e/f", false},
		{"#", "$", false},
		{"#", "$a/b", false},
		{"+", "$", false},
		{"+/#", "$a/b", false},
		{"+/$b", "$a/$b", false},
		{"$a/+", "$a/b", true},
		{"$a/+", "$a/$b", true},
		{"$a", "$a", true},
		{"$/#", "$a", false},
		{"#", "a/$b", true},
		{"+/+", "a/$b", true},
		{"+/+", "/$b", true},
		{"/#", "/$b", true},
	} {
		got, err, place := hub.Match(c.filter, c.topic)
		if got != c.want || err != hub.OK || place != 0 {
			t.Errorf("P4: Match(%q, %q) = %v %d %d, want %v 0 0", c.filter, c.topic, got, err, place, c.want)
		}
	}
}

func TestMatchErrors(t *testing.T) {
	long := strings.Repeat("a", 25)
	for _, c := range []struct {
		filter string
		topic  string
		err    hub.Errno
		place  int
	}{
		{long, "a", hub.ErrLong, 0},
		{"a", long, hub.ErrLong, 0},
		{long, "", hub.ErrLong, 0},
		{"", long, hub.ErrLong, 0},
		{"a/b+", strings.Repeat("+", 25), hub.ErrLong, 0},
		{"", "a", hub.ErrFilter, 0},
		{"", "", hub.ErrFilter, 0},
		{"a/b+", "a/+", hub.ErrFilter, 3},
		{"#/a", "", hub.ErrFilter, 1},
		{"a/b/c/d/e/f", "a/b/c/d/e/f", hub.ErrFilter, 9},
		{"#", "", hub.ErrTopic, 0},
		{"#", "a/#", hub.ErrTopic, 2},
		{"a/+", "a/+", hub.ErrTopic, 2},
		{"#", strings.Repeat("a", 23) + "+", hub.ErrTopic, 23},
	} {
		got, err, place := hub.Match(c.filter, c.topic)
		if got || err != c.err || place != c.place {
			t.Errorf("P4: Match(%q, %q) = %v %d %d, want false %d %d", c.filter, c.topic, got, err, place, c.err, c.place)
		}
	}
}

func TestMatchAllShortTexts(t *testing.T) {
	topics := texts("a$/", 5)[1:]
	for _, f := range texts("a$/+#", 5) {
		if !oracleFilter(f) {
			continue
		}
		for _, topic := range topics {
			got, err, place := hub.Match(f, topic)
			if got != oracleMatch(f, topic) || err != hub.OK || place != 0 {
				t.Errorf("P4: Match(%q, %q) = %v %d %d", f, topic, got, err, place)
			}
		}
	}
}
