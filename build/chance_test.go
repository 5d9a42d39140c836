package build_test

import (
	"bytes"
	"math/rand"
	"slices"
	"strings"
	"testing"

	"payoff/api"
	"payoff/build"
	"payoff/lex"
	"payoff/sample"
	"payoff/tree"
)

func pick[T any](chance *rand.Rand, list ...T) T { return list[chance.Intn(len(list))] }

// someText: the text of a deal by chance that has an image.
func someText(t *testing.T, chance *rand.Rand) string {
	t.Helper()
	text, e := tree.Print(sample.Deal(chance.Intn))
	if e != api.OK {
		t.Fatalf("Print: %d", e)
	}
	return text
}

// spoilt: a text with a token or two left out, put in, or put in another's place: most of the time in that of one of the same kind, so that more is read, and does not fit.
func spoilt(chance *rand.Rand, text string) string {
	tokens, _, _ := lex.Scan(text)
	var words []string
	for _, token := range tokens {
		words = append(words, token.Text)
	}
	for range 1 + chance.Intn(2) {
		at := chance.Intn(len(words))
		switch chance.Intn(8) {
		case 0:
			words = slices.Delete(words, at, at+1)
		case 1:
			words = slices.Insert(words, at, pick(chance, words...))
		case 2:
			words[at] = pick(chance, "9999", "true", "zero", "A", "B[-1]", "x", "EUR", "$", "2024-01-01", "-", "!")
		case 3, 4:
			at = among(chance, words, api.TokNumber)
			words[at] = pick(chance, "0", "2", "40", "600", "5000", "9223372036854775807")
		default:
			at = among(chance, words, pick(chance, api.TokWord, api.TokUpper, api.TokNumber, api.TokDate))
			words[at] = words[among(chance, words, kindOf(words[at]))]
		}
	}
	return strings.Join(words, " ")
}

// among: the place of a word of that kind that is no keyword, or of any one, if there seems to be none.
func among(chance *rand.Rand, words []string, kind int) int {
	at := chance.Intn(len(words))
	for tries := 0; tries < 50 && (kindOf(words[at]) != kind || lex.Keyword(words[at])); tries++ {
		at = chance.Intn(len(words))
	}
	return at
}

func kindOf(word string) int {
	tokens, _, e := lex.Scan(word)
	if e != api.OK || len(tokens) != 1 {
		return 0
	}
	return tokens[0].Kind
}

// wantTextAsPlain holds Compile and Mean of a text against the plain reading.
func wantTextAsPlain(t *testing.T, text string, in api.Table) api.Errno {
	t.Helper()
	eachSetting(func(fold, share bool) {
		b, r := build.Compile(text, fold, share)
		if want, report := plainCompile(text, fold, share); !sameReport(r, report) || !bytes.Equal(b, want) {
			t.Fatalf("Compile(%.300q, %v, %v): %x, %v, want %x, %v", text, fold, share, b, r, want, report)
		}
	})
	return wantMeanAsPlain(t, text, in).Err
}

// P1802, P1804: deals by chance.
func TestDealsByChance(t *testing.T) {
	t.Parallel()
	chance := rand.New(rand.NewSource(184))
	for range 600 {
		text := someText(t, chance)
		if e := wantTextAsPlain(t, text, sample.Table(chance.Intn, []string{"A", "B", "C"}, chance.Intn(20))); e != api.OK {
			t.Fatalf("%q: %d", text, e)
		}
	}
}

// P1802, P1804, P4: texts with something changed: of each error many.
func TestSpoiltTexts(t *testing.T) {
	t.Parallel()
	chance := rand.New(rand.NewSource(185))
	told := map[api.Errno]int{}
	for range 2000 {
		text := spoilt(chance, someText(t, chance))
		told[wantTextAsPlain(t, text, sample.Table(chance.Intn, []string{"A", "B"}, chance.Intn(6)))]++
	}
	if told[api.OK] < 500 || told[api.ErrSyntax] < 800 || told[api.ErrType] < 150 || told[api.ErrLimit] < 10 || len(told) != 4 {
		t.Errorf("%v", told)
	}
}

// P1801, P1802: texts that end anywhere, or have any byte in them.
func TestWildTexts(t *testing.T) {
	t.Parallel()
	chance := rand.New(rand.NewSource(186))
	for range 2000 {
		b := []byte(someText(t, chance))
		switch at := chance.Intn(len(b)); chance.Intn(3) {
		case 0:
			b = b[:at]
		case 1:
			b[at] = byte(chance.Intn(256))
		default:
			b = make([]byte, chance.Intn(30))
			chance.Read(b)
		}
		wantTextAsPlain(t, string(b), api.Table{})
	}
	for at := range len(textA) {
		_, place, _ := tree.Parse(textA[:at])
		wantReport(t, textA[:at], api.Report{Err: api.ErrSyntax, At: place})
	}
}
