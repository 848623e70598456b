package kernel

import (
	"strconv"
	"strings"

	"leatwork/api"
)

// writeLine writes the line of a statement with some number.
func writeLine(out *strings.Builder, number int, s api.Stmt) {
	out.WriteString(strconv.Itoa(number))
	writeWord(out, s.Op)
	out.WriteString(":")
	writeNumbers(out, s.Vars)
	if s.Text != "" {
		writeWord(out, s.Text)
	}
	if s.Op == "int" || s.Op == "caseint" {
		writeNumbers(out, []int{s.Int})
	}
	writeList(out, ">", s.Parts)
	writeList(out, "/", s.Free)
	out.WriteString("\n")
}

// writeList writes numbers behind a mark, if there are some.
func writeList(out *strings.Builder, mark string, numbers []int) {
	if len(numbers) > 0 {
		writeWord(out, mark)
		writeNumbers(out, numbers)
	}
}

func writeNumbers(out *strings.Builder, numbers []int) {
	for _, n := range numbers {
		writeWord(out, strconv.Itoa(n))
	}
}

func writeWord(out *strings.Builder, word string) {
	out.WriteString(" ")
	out.WriteString(word)
}
