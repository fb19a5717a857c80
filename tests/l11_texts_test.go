package tests

import (
	"fmt"
	"strings"
	"testing"

	"loop.example/g01121/impl"
)

// slowStreamText is what the document tells of the text.
func slowStreamText(s impl.Stream) string {
	if s.Kind == impl.StreamRegister {
		return fmt.Sprintf("r:%d:%d:%d", s.Register.Width, s.Register.Taps, s.State)
	}
	return fmt.Sprintf("c:%d:%d:%d:%d", s.Congruence.Modulus, s.Congruence.Factor, s.Congruence.Add, s.State)
}

func TestStreamTexts(t *testing.T) {
	for _, s := range append(smallStreams(), bigStreams()...) {
		want := slowStreamText(s)
		text, ok := impl.StreamText(s)
		expect(t, fmt.Sprint("StreamText ", s), text, ok, want)
		back, ok := impl.ReadStream(want)
		expect(t, "ReadStream "+want, back, ok, s)
	}
}

func expectNotRead(t *testing.T, text string) {
	t.Helper()
	s, ok := impl.ReadStream(text)
	expectFail(t, fmt.Sprintf("ReadStream %q", text), s, ok)
}

func TestTextsOfNoStreams(t *testing.T) {
	for _, s := range wrongStreams() {
		// The text of a stream with another kind tells nothing of its register.
		if s.Kind == impl.StreamCongruence && s.Register == (impl.Register{}) || s.Kind == impl.StreamRegister && s.Congruence == (impl.Congruence{}) {
			expectNotRead(t, slowStreamText(s))
		}
	}
	for _, text := range []string{
		"", ":", "::", ":::", "::::", "r", "c", "r:", "c:", "r:3", "r:3:3", "r:3:3:", "r:3::1", "r::3:1", "r:3:3:1:", "r:3:3:1:0", ":3:3:1", "3:3:1", "x:0", ":0", "0:0", "0", "x:0:0:0", ":0:0:0", "x:0:0:0:0",
		"c:10:3:1", "c:10:3:1:", "c:10:3::0", "c:10::1:0", "c::3:1:0", "c:10:3:1:0:", "c:10:3:1:0:0", ":10:3:1:0", "r:10:3:1:0", "c:3:3:1",
		"R:3:3:1", "C:10:3:1:0", "x:3:3:1", "rr:3:3:1", "rc:3:3:1", "r :3:3:1", "0:3:3:1", "é:3:3:1", "\xff:3:3:1", "none",
		" r:3:3:1", "r:3:3:1 ", "r: 3:3:1", "r:3 :3:1", "r:3:3:1\n", "\nr:3:3:1", "r:3:3:1\x00", "r 3 3 1", "r,3,3,1", "r;3;3;1", "r3:3:1", "r::3:3:1", "r:3::3:1",
		"r:03:3:1", "r:3:03:1", "r:3:3:01", "r:+3:3:1", "r:3:+3:1", "r:3:3:+1", "r:-3:3:1", "r:3:-3:1", "r:3:3:-1", "r:3:3:-0", "r:-0:0:0", "r:00:0:0", "r:0:0:00",
		"c:010:3:1:0", "c:10:03:1:0", "c:10:3:01:0", "c:10:3:1:00", "c:+10:3:1:0", "c:10:3:1:+0", "c:10:3:1:-0", "c:-10:3:1:0", "c:10:-3:1:0", "c:10:3:-1:0", "c:10:3:1:-1",
		"r:3:3:8", "r:3:8:1", "r:17:0:0", "r:0:1:0", "r:0:0:1", "c:10:3:1:10", "c:10:10:1:0", "c:10:3:10:0", "c:1:0:0:0", "c:0:0:0:0", "c:100001:0:0:0",
		"r:3.0:3:1", "r:3:0x3:1", "r:3:1e0:1", "r:three:3:1", "r:３:3:1", "r:18446744073709551619:3:1", "r:3:3:18446744073709551617", "r:3:3:9223372036854775808", "r:3:3:1000000000000000",
	} {
		expectNotRead(t, text)
	}
	expectNotRead(t, "r:3:3:1"+strings.Repeat(":", 1<<20))
	expectNotRead(t, "r:3:3:"+strings.Repeat("0", 1<<20)+"1")
}
