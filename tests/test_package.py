"""What the interface and the language ask of the package's own files."""

import ast
import inspect
import pathlib
import re
import unittest

import quotientrows
from quotientrows import fractions

FOLDER = pathlib.Path(quotientrows.__file__).parent
WORDS_OUT = (
    "type typing typing_extensions enum Enum IntEnum StrEnum Flag IntFlag Generic Protocol ABC ABCMeta "
    "namedtuple NamedTuple TypedDict TYPE_CHECKING abstractmethod dataclass overload contextmanager"
).split()
STATEMENTS_OUT = (
    ast.With, ast.Match, ast.Delete, ast.Global, ast.Nonlocal, ast.Assert, ast.Yield, ast.YieldFrom, ast.Await,
    ast.AsyncFunctionDef, ast.GeneratorExp, ast.SetComp, ast.DictComp, ast.NamedExpr, ast.Starred, ast.Div,
)
CALLS_OUT = ("print", "open", "input", "eval", "exec", "compile", "chr", "getattr", "setattr")


def package_files():
    return [path for path in sorted(FOLDER.rglob("*")) if "__pycache__" not in path.parts]


def syntax_of(path):
    return ast.parse(path.read_text(encoding="utf-8"))


class Interface(unittest.TestCase):
    def test_of_takes_p_and_q(self):
        self.assertEqual(list(inspect.signature(fractions.of).parameters), ["p", "q"])
        self.assertEqual(fractions.of(p=-1, q=2), [2, -1, 2])

    def test_value_takes_t(self):
        self.assertEqual(list(inspect.signature(fractions.value).parameters), ["t"])
        self.assertEqual(fractions.value(t=[-1, 2]), [0, -1, 2])

    def test_less_takes_t_and_u(self):
        self.assertEqual(list(inspect.signature(fractions.less).parameters), ["t", "u"])
        self.assertEqual(fractions.less(t=[-1, 2], u=[0]), [1])

    def test_simplest_takes_t_and_u(self):
        self.assertEqual(list(inspect.signature(fractions.simplest).parameters), ["t", "u"])
        self.assertEqual(fractions.simplest(t=[-1, 3], u=[-1, 1, 2]), [2, -1, 2])


class Language(unittest.TestCase):
    def test_only_plain_python_files(self):
        names = [path.name for path in package_files()]
        self.assertIn("__init__.py", names)
        for name in names:
            self.assertRegex(name, r"\A(__init__|[a-z][a-z0-9_]*)\.py\Z")

    def test_signs_and_sizes(self):
        for path in package_files():
            text = path.read_text(encoding="utf-8")
            self.assertRegex(text, r"\A[ -~\n]*\Z", path.name)
            lines = text.split("\n")
            self.assertLessEqual(len(lines), 400, path.name)
            self.assertLessEqual(max(len(line) for line in lines), 120, path.name)

    def test_functions_are_small(self):
        for path in package_files():
            for node in ast.walk(syntax_of(path)):
                if isinstance(node, ast.FunctionDef):
                    self.assertLessEqual(node.end_lineno - node.lineno + 1, 40, node.name)

    def test_nothing_is_imported_from_outside(self):
        for path in package_files():
            for node in ast.walk(syntax_of(path)):
                self.assertNotIsInstance(node, ast.Import, path.name)
                if isinstance(node, ast.ImportFrom):
                    self.assertEqual(node.level, 0, path.name)
                    self.assertEqual(node.module.split(".")[0], "quotientrows", path.name)

    def test_forms_that_are_not_used(self):
        for path in package_files():
            for node in ast.walk(syntax_of(path)):
                self.assertNotIsInstance(node, STATEMENTS_OUT, path.name)
                if isinstance(node, ast.Name):
                    self.assertNotIn(node.id, CALLS_OUT, path.name)
                if isinstance(node, ast.Constant):
                    self.assertNotIsInstance(node.value, (float, complex, bytes), path.name)

    def test_words_that_are_not_used(self):
        for path in package_files():
            words = re.findall(r"\w+", path.read_text(encoding="utf-8"))
            self.assertEqual([word for word in words if word in WORDS_OUT], [], path.name)


if __name__ == "__main__":
    unittest.main()
