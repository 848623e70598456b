package lex_test

import (
	"math/rand"
	"slices"
	"strings"
	"testing"

	"leatwork/api"
	"leatwork/lex"
)

func checkModel(t testing.TB, s string) {
	t.Helper()
	want, place, ok := model(s)
	got, n, e := lex.Scan(s)
	if ok && (e != api.OK || n != 0 || !slices.Equal(got, want)) || !ok && (e != api.ErrForm || n != place || len(got) > 0) {
		t.Fatalf("Scan(%q) = %v, %d, %d, want %v, %d", s, got, n, e, want, place)
	}
}

// All short sources, and many longer ones, against the model.
func TestScanModel(t *testing.T) {
	pieces := []string{"a", "if", "X", "_", "0", "1", "~", "'", "|", "[", "]", "=", "<", ">", "\\", "%", "#", "\n", " ", "\xff"}
	short := []string{""}
	for range 4 {
		var longer []string
		for _, s := range short {
			for _, p := range pieces {
				checkModel(t, s+p)
				longer = append(longer, s+p)
			}
		}
		short = longer
	}
	r := rand.New(rand.NewSource(1))
	for range 30000 {
		checkModel(t, randomSource(r, 40))
	}
}

// P3.1
func TestScanOfText(t *testing.T) {
	r := rand.New(rand.NewSource(2))
	for range 3000 {
		tokens := randomTokens(r, r.Intn(100))
		if got := scan(t, text(t, tokens)); !slices.Equal(list(got...), list(tokens...)) {
			t.Fatalf("Scan of Text of %v = %v", tokens, got)
		}
	}
	tokens := 0
	for range 30000 {
		source := randomSource(r, 20)
		first, _, e := lex.Scan(source)
		if e != api.OK {
			continue
		}
		tokens += len(first)
		written := text(t, first)
		again := scan(t, written)
		if !slices.Equal(list(first...), list(again...)) || text(t, again) != written {
			t.Fatalf("Scan(%q) = %v, and of its Text %v", source, first, again)
		}
	}
	if tokens < 10000 {
		t.Errorf("only %d tokens", tokens)
	}
}

// parts joins tokens with gaps, of which there is one more: the source, and where each token begins and ends.
func parts(t testing.TB, tokens []api.Token, gaps []string) (string, [][2]int) {
	t.Helper()
	s := gaps[0]
	var places [][2]int
	for i, x := range tokens {
		from := len(s)
		s += text(t, list(x))
		places = append(places, [2]int{from, len(s)})
		s += gaps[i+1]
	}
	return s, places
}

func randomGaps(r *rand.Rand, count int) []string {
	var out []string
	for range count {
		out = append(out, randomGap(r))
	}
	return out
}

// P3.2, P3.4: whatever is between tokens, they are the same, and At is where each one begins.
func TestScanPlaces(t *testing.T) {
	r := rand.New(rand.NewSource(3))
	for range 3000 {
		tokens := randomTokens(r, r.Intn(60))
		s, places := parts(t, tokens, randomGaps(r, len(tokens)+1))
		got := scan(t, s)
		if !slices.Equal(list(got...), list(tokens...)) {
			t.Fatalf("Scan(%q) = %v, want %v", s, got, tokens)
		}
		for i, x := range got {
			if x.At != places[i][0] {
				t.Fatalf("Scan(%q): %v, want the place %d", s, x, places[i][0])
			}
		}
	}
}

// width is how many bytes the token takes that begins at a place of a source.
func width(t testing.TB, s string, x api.Token) int {
	t.Helper()
	if s[x.At] == '\'' {
		return len(x.Text) + 2
	}
	if w := text(t, list(x)); !strings.HasPrefix(s[x.At:], w) {
		t.Fatalf("%q: there is no %v", s, x)
	}
	return len(x.Text)
}

// P3.2: between tokens, wherever they begin, there is nothing else than what may be there.
func TestScanLeavesNothingOut(t *testing.T) {
	r := rand.New(rand.NewSource(4))
	for range 30000 {
		s := randomSource(r, 20)
		tokens, _, e := lex.Scan(s)
		if e != api.OK {
			continue
		}
		end := 0
		for _, x := range append(tokens, api.Token{At: len(s)}) {
			if x.At < end || len(modelGap.FindString(s[end:x.At])) != x.At-end {
				t.Fatalf("Scan(%q) = %v: between %d and %d there is something else", s, tokens, end, x.At)
			}
			if x.At < len(s) {
				end = x.At + width(t, s, x)
			}
		}
	}
}

// P3.3: a token with the byte after it is no token; two symbols are one, if the table has it.
func TestScanLongest(t *testing.T) {
	r := rand.New(rand.NewSource(5))
	for range 30000 {
		s := randomSource(r, 20)
		tokens, _, e := lex.Scan(s)
		if e != api.OK {
			continue
		}
		for _, x := range tokens {
			end := x.At + width(t, s, x)
			if end == len(s) || strings.Contains(" \n\t%", s[end:end+1]) {
				continue
			}
			if more, _, e := lex.Scan(s[x.At : end+1]); e == api.OK && len(more) == 1 {
				t.Fatalf("Scan(%q): %v could go on", s, x)
			}
		}
	}
}

// P3.4
func TestScanMoreSpaces(t *testing.T) {
	r := rand.New(rand.NewSource(6))
	for range 30000 {
		s := randomSource(r, 20)
		tokens, _, e := lex.Scan(s)
		if e != api.OK {
			continue
		}
		wide, end := randomGap(r), 0
		for _, x := range tokens {
			next := x.At + width(t, s, x)
			wide += s[end:next] + randomGap(r)
			end = next
		}
		wide += s[end:]
		if strings.HasPrefix(s, "%") { // the gap before it does not end it
			wide = " " + wide
		}
		if got := scan(t, wide); !slices.Equal(list(got...), list(tokens...)) {
			t.Fatalf("Scan(%q) = %v, and Scan(%q) = %v", s, tokens, wide, got)
		}
	}
}

// P3.5
func TestScanJoined(t *testing.T) {
	r := rand.New(rand.NewSource(7))
	joined := 0
	for range 30000 {
		a, b := randomSource(r, 10), randomSource(r, 10)
		first, _, e := lex.Scan(a)
		second, _, f := lex.Scan(b)
		if e != api.OK || f != api.OK {
			continue
		}
		joined++
		want := first
		for _, x := range second {
			want = append(want, at(x.At+len(a)+1, x))
		}
		if got := scan(t, a+"\n"+b); !slices.Equal(got, want) {
			t.Fatalf("Scan(%q) = %v, want %v", a+"\n"+b, got, want)
		}
	}
	if joined < 3000 {
		t.Errorf("only %d sources were joined", joined)
	}
	half := strings.Repeat("a ", api.MaxTokens/2)
	if got := scan(t, half+"\n"+half); len(got) != api.MaxTokens {
		t.Errorf("%d tokens", len(got))
	}
	checkRefused(t, half+"\n"+half+"a", 0, api.ErrLong)
}

// P3.6
func TestScanRefused(t *testing.T) {
	r := rand.New(rand.NewSource(8))
	for range 30000 {
		s := randomSource(r, 10)
		tokens, n, e := lex.Scan(s)
		switch {
		case e == api.OK && n != 0, e != api.OK && len(tokens) > 0, e == api.ErrForm && (n < 0 || n >= len(s)), e != api.OK && e != api.ErrForm:
			t.Fatalf("Scan(%q) = %v, %d, %d", s, tokens, n, e)
		}
		if e == api.OK {
			continue
		}
		if before, _, e := lex.Scan(s[:n]); e != api.OK { // what is before it is tokens
			t.Fatalf("Scan(%q) = %v, %d, where Scan(%q) ended", s[:n], before, e, s)
		}
		checkRefused(t, "\n"+s, n+1, api.ErrForm)
		checkRefused(t, s+strings.Repeat(" ", api.MaxText), 0, api.ErrLong)
	}
}

// R5: arguments stay, and results are new memory.
func TestMemory(t *testing.T) {
	const s = "X = f('if' ~3) % a"
	first := scan(t, s)
	want := slices.Clone(first)
	second := scan(t, s)
	for i := range first[:cap(first)] {
		first[:cap(first)][i] = api.Token{Kind: -7, Text: "spoilt", At: -7}
	}
	if !slices.Equal(second, want) || !slices.Equal(scan(t, s), want) {
		t.Errorf("Scan(%q) = %v, want %v", s, second, want)
	}
	written := text(t, second)
	if !slices.Equal(second, want) {
		t.Errorf("Text changed its argument: %v, was %v", second, want)
	}
	second[0] = api.Token{}
	if written != "X = f ( 'if' ~3 )" {
		t.Errorf("Text = %q", written)
	}
	lex.Text(second)
	if second[0] != (api.Token{}) || !slices.Equal(second[1:], want[1:]) {
		t.Errorf("Text changed its argument: %v", second)
	}
}
