package token

import (
	"math/rand"
	"regexp"
	"slices"
	"strconv"
	"strings"
	"testing"

	"barbican/api"
)

// The model works answers out another way than the program does: by patterns.
var (
	wordForm   = regexp.MustCompile(`\A[a-z][a-z0-9]{0,7}\z`)
	numberForm = regexp.MustCompile(`\A(?:0|[1-9][0-9]*)\z`)
	pieceForm  = regexp.MustCompile(`(?s)[a-z0-9]+|[ \n]+|<<|>>|==|[{}()\[\],;.=+\-*&|^<]|.`)
)

func modelNumber(s string) (int, bool) {
	n, err := strconv.ParseUint(s, 10, 16)
	if err != nil || !numberForm.MatchString(s) {
		return 0, false
	}
	return int(n), true
}

func modelCut(s string) ([]api.Token, api.Errno) {
	if len(s) > 3000 {
		return nil, 1
	}
	var l []api.Token
	for _, piece := range pieceForm.FindAllString(s, -1) {
		_, number := modelNumber(piece)
		switch {
		case strings.Trim(piece, " \n") == "":
		case wordForm.MatchString(piece):
			l = append(l, w(piece))
		case number:
			l = append(l, d(piece))
		case slices.Contains(allSigns, piece):
			l = append(l, g(piece))
		default:
			return nil, 4
		}
	}
	return l, 0
}

func likeModel(t *testing.T, s string) {
	t.Helper()
	if got, want := Word(s), wordForm.MatchString(s); got != want {
		t.Fatalf("Word(%q) = %v; want %v", s, got, want)
	}
	n, ok := Number(s)
	if wantN, wantOK := modelNumber(s); n != wantN || ok != wantOK {
		t.Fatalf("Number(%q) = %d, %v; want %d, %v", s, n, ok, wantN, wantOK)
	}
	got, e := Cut(s)
	if want, wantE := modelCut(s); e != wantE || !slices.Equal(got, want) {
		t.Fatalf("Cut(%q) = %v, %d; want %v, %d", s, got, int(e), want, int(wantE))
	}
}

// P5.1, P5.2: all texts of two bytes.
func TestAllPairsOfBytes(t *testing.T) {
	for a := range 256 {
		for b := range 256 {
			likeModel(t, string([]byte{byte(a), byte(b)}))
		}
	}
}

// P5.1, P5.2: all short texts of bytes that stand for each thing a byte may be.
func TestAllShortTexts(t *testing.T) {
	texts := []string{""}
	for range 5 {
		var longer []string
		for _, s := range texts {
			for _, b := range "az019 \n<>=;!" {
				longer = append(longer, s+string(b))
			}
		}
		texts = longer
		if len(texts[0]) < 5 {
			for _, s := range texts {
				likeModel(t, s)
			}
		}
	}
	for i := 0; i < len(texts); i += 7 {
		likeModel(t, texts[i])
	}
}

// pieces that drawn texts are made of; few of them are wrong, so that many texts get through.
var pieces = append([]string{
	" ", " ", "\n", " ", "\n", " ", "x", "y1", "unit", "abcdefgh", "abcdefg", "0", "1", "9", "12", "65535", "6553", " ", " ", " ",
}, allSigns...)

var wrongPieces = []string{"!", ">", "07", "65536", "abcdefghi", "A", "\t", "\x00", "é", "\xff", "1a", "_", "\r"}

// P5.1, P5.2
func TestDrawnTexts(t *testing.T) {
	r := rand.New(rand.NewSource(5))
	through := 0
	for range 40000 {
		var s strings.Builder
		for range r.Intn(60) {
			s.WriteString(pieces[r.Intn(len(pieces))])
			if r.Intn(3) > 0 {
				s.WriteString(" ")
			}
			if r.Intn(100) == 0 {
				s.WriteString(wrongPieces[r.Intn(len(wrongPieces))])
			}
		}
		likeModel(t, s.String())
		if _, e := Cut(s.String()); e == 0 {
			through++
		}
	}
	if through < 5000 || through > 35000 {
		t.Errorf("%d of the drawn texts get through: too few of one sort", through)
	}
}

// P5.2: cut tokens, told again with blanks or newlines between them, are cut the same.
func TestCutAgain(t *testing.T) {
	r := rand.New(rand.NewSource(6))
	for range 5000 {
		var all []api.Token
		var s strings.Builder
		for range r.Intn(200) {
			k := []api.Token{w("x"), w("abc1"), d("0"), d("65535"), g(allSigns[r.Intn(len(allSigns))])}[r.Intn(5)]
			all = append(all, k)
			s.WriteString(k.Text)
			s.WriteString([]string{" ", "\n", "  ", " \n "}[r.Intn(4)])
		}
		if s.Len() <= 3000 {
			cutInto(t, s.String(), all...)
		}
	}
}
